/-
  Texts of this proof joined into one file: TxBackWalk, TxFirst, CmpPut2, TxBox, Fill, TxRow, TxTakeM. What each holds, and under which conditions, its own first sentence tells.
-/
import Derived.IntWalk
import Derived.Great.BuildSlice
import Derived.Test.YtkabpbclmhmgfaaDoorMg03
import Derived.Test.YtkabpbclmhmgfaaDoorMg08
import Derived.Test.YtkabpbclmhmgfaaDoorMg05
import Derived.Test.YtkabpbclmhmgfaaDoorMg07
import Derived.Test.YtkabpbclmhmgfaaDoorMg02
import Derived.Test.YtkabpbclmhmgfaaDoorMg01
/-
  The statement on a transaction's bytes read again, and on bytes that are read, answers true, given what package tx is shown to answer. Conditions: the transaction and the bytes lie in memory, the errors are there.
-/
namespace Go.Proofs.YtkabpbclmhmgfaaDoor.Sha
open Go Go.RowKit

set_option maxHeartbeats 4000000 in
set_option maxRecDepth 100000 in
theorem txback_main (E : Nat → Addr) (HF : ∀ w, Calls Tryd.prog 9 #[] w fun e w' => e = .returned (.bool true) ∧ Below w.heap.size w w') (HBy : BytesC) (HCh : CheckC E) (HRe : ReadC E)
    (t : TTx) (bs : List UInt8) (cut : Int) (v : Value) (sp : Option Addr) (n cap : Nat) (w : World) (hE : Errs w E) (h1 : TxAt w v t) (k1 : TxCame t) (hs : SrcB w (.slice sp n cap) bs) (hn0 : n ≤ 9223372036854775807) (hcut : -9223372036854775808 ≤ cut ∧ cut ≤ 9223372036854775807) :
    Calls Tryd.prog 4 #[v, .slice sp n cap, .int .i64 cut] w fun e w' => e = .returned (.bool true) ∧ Below w.heap.size w w' := by
  have H1 := Lib.hid h1
  obtain ⟨_, iv, ov, rfl, hi1, ho1⟩ := h1
  have HE := Lib.hid hE
  have K1 := Lib.hid k1
  have HF := Lib.hid HF
  have HS := Lib.hid hs
  have HN := Lib.hid hs.le.1
  obtain ⟨i0, hi, hz0, hz1, hz2⟩ := info_parts info_u8
  clear hE k1 hs hi1 ho1
  go_enter Tryd.func4, Tryd.ntmps4
  go_upto_region 1 with fail
  obtain ⟨b1, f1⟩ := box1 w (txL t iv ov) 26
  generalize hw1 : World.alloc _ _ = w1
  rw [hw1] at b1 f1
  have B := Lib.hid b1
  have F := Lib.hid f1
  clear hw1 b1 f1
  go_upto_region 4 with (go_at_call 9; refine (HF.out _).mono ?_; rintro e w2 ⟨rfl, hb2⟩; have F := Lib.hid (row_below F.out hb2); have B := Lib.hid (B.out.trans (hb2.mono B.out.size)); clear hb2)
  obtain ⟨l1, hl1⟩ : ∃ l1, l1 = lightB t := ⟨_, rfl⟩
  have L1 := Lib.hid hl1
  clear hl1
  go_wp2_with ((with_reducible show wpList _ _ _ _ _ _); refine wpList_load_row rfl 26 (.tmp 3) rfl w.heap.size rfl 26 (txL t iv ov).toArray (0, 0) _ F.out Tryd.underlying26 rfl (by kernel_rfl) ?_; go_frame)
  refine (light_any t _ w2 (H1.out.below B.out) l1 L1.out K1.out.2.2.2.2.1).mono ?_
  rintro e w3 ⟨rfl, hb3⟩
  have F := Lib.hid (row_below F.out hb3)
  have B := Lib.hid (B.out.trans (hb3.mono B.out.size))
  clear hb3
  cases l1
  · go_wp2_with fail
    go_ret
    exact ⟨rfl, B.out⟩
  by_cases hn : n ≤ 3000
  rotate_left
  · have c1 : (3000 : Int) < (n : Int) := by omega
    go_wp2_with fail
    go_ret
    exact ⟨rfl, B.out⟩
  have c1 : ¬ (3000 : Int) < (n : Int) := by omega
  have TS := Lib.hid (small_of_light K1.out L1.out.symm)
  obtain ⟨u, c, hr⟩ := read_pair bs
  have HR := Lib.hid hr
  clear hr
  go_upto_region 7 with (first | (go_at_call 26; refine (HRe bs _ _ u c HR.out (HE.out.below B.out).e8 (HS.out.below B.out) (by have := HN.out; omega)).mono ?_; rintro e w4 ⟨v4, rfl, ht4, hb4⟩; have T4 := Lib.hid ht4; obtain ⟨_, iv4, ov4, rfl, q1, q2⟩ := ht4; have ONE4 := Lib.hid (tx_one q1 q2); have F := Lib.hid (row_below F.out hb4); have B := Lib.hid (B.out.trans (hb4.mono B.out.size)); clear hb4 q1 q2) | ((with_reducible show wpList _ _ _ _ _ _); refine wpList_store_row rfl 26 (.tmp 8) (.tmp 32) rfl w4.heap.size (txL u iv4 ov4).toArray rfl rfl 26 _ (heap_alloc_new _ _) (by kernel_rfl) rfl ONE4.out ?_; go_frame))
  obtain ⟨_, f2, f3, f4⟩ := fill_setup (Below.refl w4.heap.size w4) txZ (txL u iv4 ov4).toArray 26
  obtain ⟨g4, hg4⟩ : ∃ g4, g4 = w4.heap.size := ⟨_, rfl⟩
  unfold txZ at f2 f3 f4
  generalize hw5 : World.setRow _ _ _ = w5
  rw [hw5] at f2 f3 f4
  rw [← hg4] at f2 ⊢
  have T4 := Lib.hid (T4.out.below f4)
  have G4 := Lib.hid f2
  have F := Lib.hid (row_below F.out f4)
  have B := Lib.hid (B.out.trans (f4.mono B.out.size))
  clear hw5 f2 f3 f4 hg4
  have SBS : Hid (SrcB w5 (.slice sp n cap) bs) := HS.out.below B.out
  have H1 := Lib.hid (H1.out.below B.out)
  have HE := Lib.hid (HE.out.below B.out)
  have B0 := B
  have B : Hid (Below w5.heap.size w5 w5) := Below.refl _ _
  have hfin : Hid (∀ w', Below w5.heap.size w5 w' → Below w.heap.size w w') := fun w' h => B0.out.trans (h.mono B0.out.size)
  have HSM : Hid ((txB t).length ≤ 70368744177600) := Nat.le_trans TS.out.len (by omega)
  obtain ⟨nb, hnb⟩ : ∃ nb, nb = (txB t).length := ⟨_, rfl⟩
  have NB := Lib.hid hnb
  have h10 : 10 ≤ nb := by rw [hnb]; exact txB_ten t
  have hnb2 : nb ≤ 70368744177600 := by rw [hnb]; exact HSM.out
  obtain ⟨j, hj, hj2⟩ := numb_nat cut nb (by omega)
  have HNUM : Hid (∀ W, Calls Tryd.prog 27 #[.int .i64 cut, .int .i64 nb] W fun e w' => e = .returned (.int .i64 (j : Int)) ∧ W = w') := fun W => by rw [← hj]; exact numb_any cut (nb : Int) (by omega) (by omega) hcut W
  obtain ⟨cc, hcc⟩ : ∃ cc, cc = checkC t := ⟨_, rfl⟩
  have HCC := Lib.hid hcc
  clear hnb hj hcut hcc B0
  cases c with
  | zero =>
    rw [show errV E 0 = Value.nilIface from rfl]
    obtain ⟨hu1, hu2⟩ := HR.out.back rfl
    have UB := Lib.hid hu1
    have US := Lib.hid hu2.small
    clear hu1 hu2
    go_upto_region 9 with (first | ((with_reducible show wpList _ _ _ _ _ _); refine wpList_load_rowG 26 (.tmp 8) rfl g4 rfl 26 (txL u iv4 ov4).toArray (0, 0) _ G4.out Tryd.underlying26 rfl (by kernel_rfl) rfl ?_; go_frame) | (go_at_call 13; refine (HBy u _ _ (T4.out.below B.out) US.out).mono ?_; rintro e w6 ⟨v6, rfl, ho6, hb6⟩; have S6 := Lib.hid (src_own ho6); have F := Lib.hid (row_below F.out hb6); have B := Lib.hid (B.out.trans (hb6.mono B.out.size)); clear hb6 ho6) | (go_at_call 12; refine (same_bytes_v (txB u) bs _ _ true _ S6.out (SBS.out.below B.out) (by rw [← UB.out]; simp) (by rw [← UB.out]; have := HN.out; omega)).mono ?_; rintro e w7 ⟨rfl, hb7⟩; have F := Lib.hid (row_below F.out hb7); have B := Lib.hid (B.out.trans (hb7.mono B.out.size)); clear hb7))
    go_wp2_with ((with_reducible show wpList _ _ _ _ _ _); refine wpList_load_row rfl 26 (.tmp 3) rfl w.heap.size rfl 26 (txL t iv ov).toArray (0, 0) _ F.out Tryd.underlying26 rfl (by kernel_rfl) ?_; go_frame)
    refine (HBy t _ _ (H1.out.below B.out) TS.out).mono ?_
    rintro e w8 ⟨v8, rfl, ho8, hb8⟩
    have hsb := src_own ho8
    obtain ⟨sb, cb, hvb⟩ := hsb.shape
    rw [← NB.out] at hvb
    subst hvb
    have SB := Lib.hid hsb
    have F := Lib.hid (row_below F.out hb8)
    have B := Lib.hid (B.out.trans (hb8.mono B.out.size))
    have c2 : ¬ (nb : Int) < 10 := by omega
    have hcb : nb ≤ cb := hsb.le.2
    clear hsb ho8 hb8
    go_wp2_with ((with_reducible show wpList _ _ _ _ _ _); refine wpList_load_row rfl 26 (.tmp 3) rfl w.heap.size rfl 26 (txL t iv ov).toArray (0, 0) _ F.out Tryd.underlying26 rfl (by kernel_rfl) ?_; go_frame)
    refine (HCh t _ _ cc HCC.out (HE.out.below B.out).e8 (H1.out.below B.out) TS.out).mono ?_
    rintro e w9 ⟨rfl, hb9⟩
    have F := Lib.hid (row_below F.out hb9)
    have B := Lib.hid (B.out.trans (hb9.mono B.out.size))
    have SB := Lib.hid (SB.out.below hb9)
    clear hb9
    cases cc with
    | succ q =>
      rw [show errV E (q + 1) = Value.iface 133 (.pointer (some (E q))) from rfl]
      go_wp2_with fail
      go_ret
      exact ⟨rfl, hfin.out _ B.out⟩
    | zero =>
      rw [show errV E 0 = Value.nilIface from rfl]
      have hTR := read_fine TS.out.fit (fine_check HCC.out.symm)
      have R1 : Hid (ReadIs (txB t) t 0) := ⟨read_own hTR⟩
      have R2 : Hid (ReadIs ((txB t).take j) noTx 1) := ⟨read_cut hTR (by rw [← NB.out]; exact hj2)⟩
      have R3 : Hid (ReadIs (txB t ++ [0]) noTx 2) := ⟨read_long hTR (by simp)⟩
      clear hTR
      go_wp2_with fail
      refine (HRe (txB t) _ _ t 0 R1.out (HE.out.below B.out).e8 SB.out (by have := HSM.out; omega)).mono ?_
      rintro e w10 ⟨v10, rfl, ht, hb⟩
      have T10 := Lib.hid ht
      obtain ⟨_, iv10, ov10, rfl, q1, q2⟩ := ht
      have ONE10 := Lib.hid (tx_one q1 q2)
      have F := Lib.hid (row_below F.out hb)
      have B := Lib.hid (B.out.trans (hb.mono B.out.size))
      have SB := Lib.hid (SB.out.below hb)
      clear hb q1 q2
      rw [show errV E 0 = Value.nilIface from rfl]
      go_upto_region 15 with ((with_reducible show wpList _ _ _ _ _ _); refine wpList_store_row rfl 26 (.tmp 11) (.tmp 55) rfl w10.heap.size (txL t iv10 ov10).toArray rfl rfl 26 _ (heap_alloc_new _ _) (by kernel_rfl) rfl ONE10.out ?_; go_frame)
      obtain ⟨_, f2, f3, f4⟩ := fill_setup (Below.refl w10.heap.size w10) txZ (txL t iv10 ov10).toArray 26
      obtain ⟨g11, hg⟩ : ∃ g11, g11 = w10.heap.size := ⟨_, rfl⟩
      unfold txZ at f2 f3 f4
      generalize hw : World.setRow _ _ _ = w11
      rw [hw] at f2 f3 f4
      rw [← hg] at f2 ⊢
      have F := Lib.hid (row_below F.out f4)
      have B := Lib.hid (B.out.trans (f4.mono B.out.size))
      have SB := Lib.hid (SB.out.below f4)
      have T10 := Lib.hid (T10.out.below f4)
      have G11 := Lib.hid f2
      clear hw f2 f3 f4 hg
      go_wp2_with fail
      refine (HNUM.out _).mono ?_
      rintro e w' ⟨rfl, rfl⟩
      go_wp2_with ((with_reducible show wpList _ _ _ _ _ _); refine wpList_cut_h rfl 29 (.tmp 58) (.tmp 62) rfl 5 Tryd.underlying29 (by kernel_rfl) sb nb cb j rfl rfl (by omega) ?_; intro vh hvh; go_frame)
      have sc := src_sliced SB.out 0 j (by omega) (by omega)
      rw [List.drop_zero, ← hvh.out] at sc
      have SC := Lib.hid sc
      clear sc hvh
      refine (HRe ((txB t).take j) _ _ noTx 1 R2.out (HE.out.below B.out).e8 SC.out (by have := HSM.out; rw [List.length_take]; omega)).mono ?_
      rintro e w12 ⟨v12, rfl, ht, hb⟩
      obtain ⟨_, iv12, ov12, rfl, q1, q2⟩ := ht
      have ONE12 := Lib.hid (tx_one q1 q2)
      have F := Lib.hid (row_below F.out hb)
      have B := Lib.hid (B.out.trans (hb.mono B.out.size))
      have SB := Lib.hid (SB.out.below hb)
      have T10 := Lib.hid (T10.out.below hb)
      have G11 := Lib.hid (row_below G11.out hb)
      clear hb q1 q2
      clear SC
      go_upto_region 16 with ((with_reducible show wpList _ _ _ _ _ _); refine wpList_store_row rfl 26 (.tmp 13) (.tmp 65) rfl w12.heap.size (txL noTx iv12 ov12).toArray rfl rfl 26 _ (heap_alloc_new _ _) (by kernel_rfl) rfl ONE12.out ?_; go_frame)
      obtain ⟨_, f2, f3, f4⟩ := fill_setup (Below.refl w12.heap.size w12) txZ (txL noTx iv12 ov12).toArray 26
      obtain ⟨g13, hg⟩ : ∃ g13, g13 = w12.heap.size := ⟨_, rfl⟩
      unfold txZ at f2 f3 f4
      generalize hw : World.setRow _ _ _ = w13
      rw [hw] at f2 f3 f4
      rw [← hg] at f2 ⊢
      have F := Lib.hid (row_below F.out f4)
      have B := Lib.hid (B.out.trans (f4.mono B.out.size))
      have SB := Lib.hid (SB.out.below f4)
      have T10 := Lib.hid (T10.out.below f4)
      have G11 := Lib.hid (row_below G11.out f4)
      clear hw f2 f3 f4 hg
      go_wp2_with fail
      refine (bytes_copy_any (txB t) sb nb cb _ SB.out (by omega)).mono ?_
      rintro e w14 ⟨rfl, ho14, hb14⟩
      have HO14 := Lib.hid ho14
      have HB14 := Lib.hid hb14
      clear ho14 hb14
      go_wp2_with (at_builtin; refine wpList_append_own _ rfl _ _ 29 rfl w13.heap.size 5 i0 (.int .u8 0) 1 1 Tryd.underlying29 hi hz0 hz1 hz2 rfl (by decide) _ _ _ rfl (HO14.out.alloc _) ⟨w14.heap.size, 0, none⟩ 1 1 [.int .u8 0] rfl rfl (cell_one_new _ _ _) (one_u8 _) (by unfold maxLen; omega) (by omega) (by have := HB14.out.size; simp; omega) ?_; intro v15 w15 ho15 hg15 hx15; clear hx15; have HO15 := Lib.hid ho15; have HG15 := Lib.hid hg15; clear ho15 hg15; go_frame)
      have hb15 : Below w13.heap.size w13 w15 := (HB14.out.alloc HB14.out.size _).grown HG15.out (by have := HB14.out.size; simp; omega) (fun k hk => by cases hk; exact Nat.le_refl _)
      have S15 : Hid (SrcB w15 v15 (txB t ++ [0])) := src_own (n := nb + 1) (by rw [List.map_append]; exact HO15.out)
      have F := Lib.hid (row_below F.out hb15)
      have B := Lib.hid (B.out.trans (hb15.mono B.out.size))
      have T10 := Lib.hid (T10.out.below hb15)
      have G11 := Lib.hid (row_below G11.out hb15)
      clear hb15 HO14 HB14 HO15 HG15 SB
      refine (HRe (txB t ++ [0]) _ _ noTx 2 R3.out (HE.out.below B.out).e8 S15.out (by have := HSM.out; rw [List.length_append]; simp; omega)).mono ?_
      rintro e w16 ⟨v16, rfl, ht, hb⟩
      obtain ⟨_, iv16, ov16, rfl, q1, q2⟩ := ht
      have ONE16 := Lib.hid (tx_one q1 q2)
      have F := Lib.hid (row_below F.out hb)
      have B := Lib.hid (B.out.trans (hb.mono B.out.size))
      have T10 := Lib.hid (T10.out.below hb)
      have G11 := Lib.hid (row_below G11.out hb)
      clear hb q1 q2
      clear S15
      go_upto_region 17 with ((with_reducible show wpList _ _ _ _ _ _); refine wpList_store_row rfl 26 (.tmp 15) (.tmp 73) rfl w16.heap.size (txL noTx iv16 ov16).toArray rfl rfl 26 _ (heap_alloc_new _ _) (by kernel_rfl) rfl ONE16.out ?_; go_frame)
      obtain ⟨_, f2, f3, f4⟩ := fill_setup (Below.refl w16.heap.size w16) txZ (txL noTx iv16 ov16).toArray 26
      obtain ⟨g17, hg⟩ : ∃ g17, g17 = w16.heap.size := ⟨_, rfl⟩
      unfold txZ at f2 f3 f4
      generalize hw : World.setRow _ _ _ = w17
      rw [hw] at f2 f3 f4
      rw [← hg] at f2 ⊢
      have F := Lib.hid (row_below F.out f4)
      have B := Lib.hid (B.out.trans (f4.mono B.out.size))
      have T10 := Lib.hid (T10.out.below f4)
      have G11 := Lib.hid (row_below G11.out f4)
      clear hw f2 f3 f4 hg
      go_wp2_with (first | ((with_reducible show wpList _ _ _ _ _ _); refine wpList_load_rowG 26 (.tmp 11) rfl g11 rfl 26 (txL t iv10 ov10).toArray (0, 0) _ G11.out Tryd.underlying26 rfl (by kernel_rfl) rfl ?_; go_frame) | ((with_reducible show wpList _ _ _ _ _ _); refine wpList_load_rowG 26 (.tmp 3) rfl w.heap.size rfl 26 (txL t iv ov).toArray (0, 0) _ F.out Tryd.underlying26 rfl (by kernel_rfl) rfl ?_; go_frame))
      refine (sametx_any t t _ _ _ T10.out (H1.out.below B.out) (fun x hx => Nat.le_trans (TS.out.2.2.2 x hx) (by omega)) true (by simp) (Nat.le_trans TS.out.2.1 (by omega)) (Nat.le_trans TS.out.2.2.1 (by omega))).mono ?_
      rintro e w18 ⟨rfl, hb18⟩
      have B := Lib.hid (B.out.trans (hb18.mono B.out.size))
      clear hb18
      go_wp2_with fail
      refine (is_any E 1 101 true rfl _ (HE.out.below B.out) (by omega)).mono ?_
      rintro e w19 ⟨rfl, hb19⟩
      have B := Lib.hid (B.out.trans (hb19.mono B.out.size))
      clear hb19
      go_wp2_with fail
      refine (is_any E 2 102 true rfl _ (HE.out.below B.out) (by omega)).mono ?_
      rintro e w19 ⟨rfl, hb19⟩
      have B := Lib.hid (B.out.trans (hb19.mono B.out.size))
      clear hb19
      go_wp2_with fail
      go_ret
      exact ⟨rfl, hfin.out _ B.out⟩
  | succ c =>
    rw [show errV E (c + 1) = Value.iface 133 (.pointer (some (E c))) from rfl]
    go_upto_region 9 with fail
    go_wp2_with ((with_reducible show wpList _ _ _ _ _ _); refine wpList_load_row rfl 26 (.tmp 3) rfl w.heap.size rfl 26 (txL t iv ov).toArray (0, 0) _ F.out Tryd.underlying26 rfl (by kernel_rfl) ?_; go_frame)
    refine (HBy t _ _ (H1.out.below B.out) TS.out).mono ?_
    rintro e w8 ⟨v8, rfl, ho8, hb8⟩
    have hsb := src_own ho8
    obtain ⟨sb, cb, hvb⟩ := hsb.shape
    rw [← NB.out] at hvb
    subst hvb
    have SB := Lib.hid hsb
    have F := Lib.hid (row_below F.out hb8)
    have B := Lib.hid (B.out.trans (hb8.mono B.out.size))
    have c2 : ¬ (nb : Int) < 10 := by omega
    have hcb : nb ≤ cb := hsb.le.2
    clear hsb ho8 hb8
    go_wp2_with ((with_reducible show wpList _ _ _ _ _ _); refine wpList_load_row rfl 26 (.tmp 3) rfl w.heap.size rfl 26 (txL t iv ov).toArray (0, 0) _ F.out Tryd.underlying26 rfl (by kernel_rfl) ?_; go_frame)
    refine (HCh t _ _ cc HCC.out (HE.out.below B.out).e8 (H1.out.below B.out) TS.out).mono ?_
    rintro e w9 ⟨rfl, hb9⟩
    have F := Lib.hid (row_below F.out hb9)
    have B := Lib.hid (B.out.trans (hb9.mono B.out.size))
    have SB := Lib.hid (SB.out.below hb9)
    clear hb9
    cases cc with
    | succ q =>
      rw [show errV E (q + 1) = Value.iface 133 (.pointer (some (E q))) from rfl]
      go_wp2_with fail
      go_ret
      exact ⟨rfl, hfin.out _ B.out⟩
    | zero =>
      rw [show errV E 0 = Value.nilIface from rfl]
      have hTR := read_fine TS.out.fit (fine_check HCC.out.symm)
      have R1 : Hid (ReadIs (txB t) t 0) := ⟨read_own hTR⟩
      have R2 : Hid (ReadIs ((txB t).take j) noTx 1) := ⟨read_cut hTR (by rw [← NB.out]; exact hj2)⟩
      have R3 : Hid (ReadIs (txB t ++ [0]) noTx 2) := ⟨read_long hTR (by simp)⟩
      clear hTR
      go_wp2_with fail
      refine (HRe (txB t) _ _ t 0 R1.out (HE.out.below B.out).e8 SB.out (by have := HSM.out; omega)).mono ?_
      rintro e w10 ⟨v10, rfl, ht, hb⟩
      have T10 := Lib.hid ht
      obtain ⟨_, iv10, ov10, rfl, q1, q2⟩ := ht
      have ONE10 := Lib.hid (tx_one q1 q2)
      have F := Lib.hid (row_below F.out hb)
      have B := Lib.hid (B.out.trans (hb.mono B.out.size))
      have SB := Lib.hid (SB.out.below hb)
      clear hb q1 q2
      rw [show errV E 0 = Value.nilIface from rfl]
      go_upto_region 15 with ((with_reducible show wpList _ _ _ _ _ _); refine wpList_store_row rfl 26 (.tmp 11) (.tmp 55) rfl w10.heap.size (txL t iv10 ov10).toArray rfl rfl 26 _ (heap_alloc_new _ _) (by kernel_rfl) rfl ONE10.out ?_; go_frame)
      obtain ⟨_, f2, f3, f4⟩ := fill_setup (Below.refl w10.heap.size w10) txZ (txL t iv10 ov10).toArray 26
      obtain ⟨g11, hg⟩ : ∃ g11, g11 = w10.heap.size := ⟨_, rfl⟩
      unfold txZ at f2 f3 f4
      generalize hw : World.setRow _ _ _ = w11
      rw [hw] at f2 f3 f4
      rw [← hg] at f2 ⊢
      have F := Lib.hid (row_below F.out f4)
      have B := Lib.hid (B.out.trans (f4.mono B.out.size))
      have SB := Lib.hid (SB.out.below f4)
      have T10 := Lib.hid (T10.out.below f4)
      have G11 := Lib.hid f2
      clear hw f2 f3 f4 hg
      go_wp2_with fail
      refine (HNUM.out _).mono ?_
      rintro e w' ⟨rfl, rfl⟩
      go_wp2_with ((with_reducible show wpList _ _ _ _ _ _); refine wpList_cut_h rfl 29 (.tmp 58) (.tmp 62) rfl 5 Tryd.underlying29 (by kernel_rfl) sb nb cb j rfl rfl (by omega) ?_; intro vh hvh; go_frame)
      have sc := src_sliced SB.out 0 j (by omega) (by omega)
      rw [List.drop_zero, ← hvh.out] at sc
      have SC := Lib.hid sc
      clear sc hvh
      refine (HRe ((txB t).take j) _ _ noTx 1 R2.out (HE.out.below B.out).e8 SC.out (by have := HSM.out; rw [List.length_take]; omega)).mono ?_
      rintro e w12 ⟨v12, rfl, ht, hb⟩
      obtain ⟨_, iv12, ov12, rfl, q1, q2⟩ := ht
      have ONE12 := Lib.hid (tx_one q1 q2)
      have F := Lib.hid (row_below F.out hb)
      have B := Lib.hid (B.out.trans (hb.mono B.out.size))
      have SB := Lib.hid (SB.out.below hb)
      have T10 := Lib.hid (T10.out.below hb)
      have G11 := Lib.hid (row_below G11.out hb)
      clear hb q1 q2
      clear SC
      go_upto_region 16 with ((with_reducible show wpList _ _ _ _ _ _); refine wpList_store_row rfl 26 (.tmp 13) (.tmp 65) rfl w12.heap.size (txL noTx iv12 ov12).toArray rfl rfl 26 _ (heap_alloc_new _ _) (by kernel_rfl) rfl ONE12.out ?_; go_frame)
      obtain ⟨_, f2, f3, f4⟩ := fill_setup (Below.refl w12.heap.size w12) txZ (txL noTx iv12 ov12).toArray 26
      obtain ⟨g13, hg⟩ : ∃ g13, g13 = w12.heap.size := ⟨_, rfl⟩
      unfold txZ at f2 f3 f4
      generalize hw : World.setRow _ _ _ = w13
      rw [hw] at f2 f3 f4
      rw [← hg] at f2 ⊢
      have F := Lib.hid (row_below F.out f4)
      have B := Lib.hid (B.out.trans (f4.mono B.out.size))
      have SB := Lib.hid (SB.out.below f4)
      have T10 := Lib.hid (T10.out.below f4)
      have G11 := Lib.hid (row_below G11.out f4)
      clear hw f2 f3 f4 hg
      go_wp2_with fail
      refine (bytes_copy_any (txB t) sb nb cb _ SB.out (by omega)).mono ?_
      rintro e w14 ⟨rfl, ho14, hb14⟩
      have HO14 := Lib.hid ho14
      have HB14 := Lib.hid hb14
      clear ho14 hb14
      go_wp2_with (at_builtin; refine wpList_append_own _ rfl _ _ 29 rfl w13.heap.size 5 i0 (.int .u8 0) 1 1 Tryd.underlying29 hi hz0 hz1 hz2 rfl (by decide) _ _ _ rfl (HO14.out.alloc _) ⟨w14.heap.size, 0, none⟩ 1 1 [.int .u8 0] rfl rfl (cell_one_new _ _ _) (one_u8 _) (by unfold maxLen; omega) (by omega) (by have := HB14.out.size; simp; omega) ?_; intro v15 w15 ho15 hg15 hx15; clear hx15; have HO15 := Lib.hid ho15; have HG15 := Lib.hid hg15; clear ho15 hg15; go_frame)
      have hb15 : Below w13.heap.size w13 w15 := (HB14.out.alloc HB14.out.size _).grown HG15.out (by have := HB14.out.size; simp; omega) (fun k hk => by cases hk; exact Nat.le_refl _)
      have S15 : Hid (SrcB w15 v15 (txB t ++ [0])) := src_own (n := nb + 1) (by rw [List.map_append]; exact HO15.out)
      have F := Lib.hid (row_below F.out hb15)
      have B := Lib.hid (B.out.trans (hb15.mono B.out.size))
      have T10 := Lib.hid (T10.out.below hb15)
      have G11 := Lib.hid (row_below G11.out hb15)
      clear hb15 HO14 HB14 HO15 HG15 SB
      refine (HRe (txB t ++ [0]) _ _ noTx 2 R3.out (HE.out.below B.out).e8 S15.out (by have := HSM.out; rw [List.length_append]; simp; omega)).mono ?_
      rintro e w16 ⟨v16, rfl, ht, hb⟩
      obtain ⟨_, iv16, ov16, rfl, q1, q2⟩ := ht
      have ONE16 := Lib.hid (tx_one q1 q2)
      have F := Lib.hid (row_below F.out hb)
      have B := Lib.hid (B.out.trans (hb.mono B.out.size))
      have T10 := Lib.hid (T10.out.below hb)
      have G11 := Lib.hid (row_below G11.out hb)
      clear hb q1 q2
      clear S15
      go_upto_region 17 with ((with_reducible show wpList _ _ _ _ _ _); refine wpList_store_row rfl 26 (.tmp 15) (.tmp 73) rfl w16.heap.size (txL noTx iv16 ov16).toArray rfl rfl 26 _ (heap_alloc_new _ _) (by kernel_rfl) rfl ONE16.out ?_; go_frame)
      obtain ⟨_, f2, f3, f4⟩ := fill_setup (Below.refl w16.heap.size w16) txZ (txL noTx iv16 ov16).toArray 26
      obtain ⟨g17, hg⟩ : ∃ g17, g17 = w16.heap.size := ⟨_, rfl⟩
      unfold txZ at f2 f3 f4
      generalize hw : World.setRow _ _ _ = w17
      rw [hw] at f2 f3 f4
      rw [← hg] at f2 ⊢
      have F := Lib.hid (row_below F.out f4)
      have B := Lib.hid (B.out.trans (f4.mono B.out.size))
      have T10 := Lib.hid (T10.out.below f4)
      have G11 := Lib.hid (row_below G11.out f4)
      clear hw f2 f3 f4 hg
      go_wp2_with (first | ((with_reducible show wpList _ _ _ _ _ _); refine wpList_load_rowG 26 (.tmp 11) rfl g11 rfl 26 (txL t iv10 ov10).toArray (0, 0) _ G11.out Tryd.underlying26 rfl (by kernel_rfl) rfl ?_; go_frame) | ((with_reducible show wpList _ _ _ _ _ _); refine wpList_load_rowG 26 (.tmp 3) rfl w.heap.size rfl 26 (txL t iv ov).toArray (0, 0) _ F.out Tryd.underlying26 rfl (by kernel_rfl) rfl ?_; go_frame))
      refine (sametx_any t t _ _ _ T10.out (H1.out.below B.out) (fun x hx => Nat.le_trans (TS.out.2.2.2 x hx) (by omega)) true (by simp) (Nat.le_trans TS.out.2.1 (by omega)) (Nat.le_trans TS.out.2.2.1 (by omega))).mono ?_
      rintro e w18 ⟨rfl, hb18⟩
      have B := Lib.hid (B.out.trans (hb18.mono B.out.size))
      clear hb18
      go_wp2_with fail
      refine (is_any E 1 101 true rfl _ (HE.out.below B.out) (by omega)).mono ?_
      rintro e w19 ⟨rfl, hb19⟩
      have B := Lib.hid (B.out.trans (hb19.mono B.out.size))
      clear hb19
      go_wp2_with fail
      refine (is_any E 2 102 true rfl _ (HE.out.below B.out) (by omega)).mono ?_
      rintro e w19 ⟨rfl, hb19⟩
      have B := Lib.hid (B.out.trans (hb19.mono B.out.size))
      clear hb19
      go_wp2_with fail
      go_ret
      exact ⟨rfl, hfin.out _ B.out⟩
end Go.Proofs.YtkabpbclmhmgfaaDoor.Sha

/-
  The chapter's examples hold, given what package tx is shown to answer. No conditions.
-/
namespace Go.Proofs.YtkabpbclmhmgfaaDoor.Sha
open Go Go.RowKit

theorem noTx_at (w : World) : TxAt w (.agg #[.int .u32 0, .slice none 0 0, .slice none 0 0, .int .u32 0]) noTx :=
  ⟨⟨by simp [noTx], by simp [noTx]⟩, .slice none 0 0, .slice none 0 0, rfl, ⟨none, 0, rfl, by simp [noTx], fun h => absurd h (by simp [noTx])⟩, ⟨none, 0, rfl, by simp [noTx], fun h => absurd h (by simp [noTx])⟩⟩
theorem noTx_small : TxSmall noTx := TxRead.small ⟨⟨by simp [noTx], by simp [noTx]⟩, fun _ h => absurd h (by simp [noTx]), fun _ h => absurd h (by simp [noTx]), fun _ h => absurd h (by simp [noTx]), by simp [noTx], by simp [noTx]⟩
theorem noTx_len : (txB noTx).length = 10 := by decide
set_option maxHeartbeats 400000 in
set_option maxRecDepth 100000 in
theorem first4_of (HBy : BytesC) (HSz : SizeC) (w : World) : Calls Tryd.prog 9 #[] w fun e w' => e = .returned (.bool true) ∧ Below w.heap.size w w' := by
  go_enter Tryd.func9, Tryd.ntmps9
  go_wp2_with fail
  refine (HBy noTx _ _ (noTx_at _) noTx_small).mono ?_
  rintro e w1 ⟨v1, rfl, ho1, hb1⟩
  have hsb := src_own ho1
  obtain ⟨sb, cb, hvb⟩ := hsb.shape
  rw [noTx_len] at hvb
  subst hvb
  have B := Lib.hid hb1
  clear ho1 hb1 hsb
  go_wp2_with fail
  refine (HSz noTx _ _ (noTx_at _) noTx_small).mono ?_
  rintro e w2 ⟨he, hb2⟩
  rw [noTx_len] at he
  subst he
  have B := Lib.hid (B.out.trans (hb2.mono B.out.size))
  clear hb2
  go_wp2_with fail
  go_ret
  exact ⟨rfl, B.out⟩
end Go.Proofs.YtkabpbclmhmgfaaDoor.Sha

/-
  compact.Put answers the bytes and behind them the number in the fewest bytes, in new memory; nothing that was there turns. Conditions: fewer than 2^46 bytes, which lie where the slice says.
-/
namespace Go.Proofs.YtkabpbclmhmgfaaDoor.Sha
open Go Go.RowKit

theorem ret_slice {p : Option Addr} {a b c : Nat} (h : a = b) : Ending.returned (.slice p a c) = .returned (.slice p b c) := by rw [h]
theorem newB_of {w w' : World} {k k2 c : Nat} {bs : List UInt8} (h : NewB w w' k c bs) (hk : k = k2) : NewB w w' k2 c bs := by subst hk; exact h
set_option maxRecDepth 100000 in
theorem put_0 (bs : List UInt8) (sp : Option Addr) (n cap x : Nat) (w : World) (hs : SrcB w (.slice sp n cap) bs) (hn : n ≤ 70368744177664) (hl : lenN x = 1) :
    Calls Tryd.prog 38 #[.slice sp n cap, .int .u64 x] w fun e w' => e = .returned (.slice (some ⟨w.heap.size, 0, none⟩) (n + 1) (n + 1)) ∧ NewB w w' (n + 1) (n + 1) (bs ++ [UInt8.ofNat x]) := by
  obtain ⟨i0, hi, hz0, hz1, hz2⟩ := info_parts info_u8
  have hby : (x : Int) % 256 = bv (UInt8.ofNat x) := by rw [← bv_of, IntKind.wrap_u8']
  obtain ⟨c, hc⟩ : ∃ c, c = UInt8.ofNat x := ⟨_, rfl⟩
  rw [← hc] at hby ⊢
  have HS := Lib.hid hs
  have HL := Lib.hid (show ((lenN x : Nat) : Int) = 1 by rw [hl]; rfl)
  clear hs hl hc
  go_enter Tryd.func38, Tryd.ntmps38
  go_wp2_with (first | (go_at_call 41; refine (len_is x 1 _ HL.out).mono ?_; rintro e w' ⟨rfl, rfl⟩) | (go_at_call 69; refine (room_any bs sp n cap 1 1 rfl _ HS.out hn (by omega)).mono ?_; rintro e w1 ⟨rfl, hn1⟩; have HN1 := Lib.hid hn1; clear hn1) | (at_builtin; refine wpList_append_fits _ rfl _ _ 29 rfl w.heap.size 5 i0 1 Tryd.underlying29 hi hz1 w.heap.size n (n + 1) _ rfl (HN1.out.1.alloc _) ⟨w1.heap.size, 0, none⟩ 1 1 [.int .u8 (bv c)] rfl rfl (cell_one_new _ _ _) (one_u8 _) (by omega) ?_; intro w2 ho hg; have HN2 := Lib.hid (HN1.out.push c ho hg); clear ho hg; go_frame))
  go_ret
  exact ⟨rfl, HN2.out⟩
set_option maxHeartbeats 400000 in
set_option maxRecDepth 100000 in
theorem put_2 (bs : List UInt8) (sp : Option Addr) (n cap x : Nat) (w : World) (hs : SrcB w (.slice sp n cap) bs) (hn : n ≤ 70368744177664) (hl : lenN x = 3) :
    Calls Tryd.prog 38 #[.slice sp n cap, .int .u64 x] w fun e w' => e = .returned (.slice (some ⟨w.heap.size, 0, none⟩) (n + 3) (n + 3)) ∧ NewB w w' (n + 3) (n + 3) (bs ++ 253 :: leB x 2) := by
  obtain ⟨i0, hi, hz0, hz1, hz2⟩ := info_parts info_u8
  have HS := Lib.hid hs
  have HL := Lib.hid (show ((lenN x : Nat) : Int) = 3 by rw [hl]; rfl)
  clear hs hl
  go_enter Tryd.func38, Tryd.ntmps38
  go_wp2_with (first | (go_at_call 41; refine (len_is x 3 _ HL.out).mono ?_; rintro e w' ⟨rfl, rfl⟩) | (go_at_call 69; refine (room_any bs sp n cap 3 3 rfl _ HS.out hn (by omega)).mono ?_; rintro e w1 ⟨rfl, hn1⟩; have HN1 := Lib.hid hn1; clear hn1) | (at_builtin; refine wpList_append_fits _ rfl _ _ 29 rfl w.heap.size 5 i0 1 Tryd.underlying29 hi hz1 w.heap.size n (n + 3) _ rfl (HN1.out.1.alloc _) ⟨w1.heap.size, 0, none⟩ 1 1 [.int .u8 (bv 253)] rfl rfl (cell_one_new _ _ _) (one_u8 _) (by omega) ?_; intro w2 ho hg; have HN2 := Lib.hid (HN1.out.push 253 ho hg); clear ho hg; go_frame) | (go_at_call 68; refine (lowest_any x 2 w.heap.size (n + 1) (n + 3) 2 rfl ((bs ++ [253]).map bV) _ (by omega) (by omega) (by omega) HN2.out.lt HN2.out.1).mono ?_; rintro e w3 ⟨rfl, ho, hb⟩; have HN3 := Lib.hid (HN2.out.low hb ho); clear ho hb))
  go_ret
  have h := HN3.out
  rw [List.append_assoc] at h
  exact ⟨ret_slice (by omega), newB_of h (by omega)⟩
set_option maxHeartbeats 400000 in
set_option maxRecDepth 100000 in
theorem put_4 (bs : List UInt8) (sp : Option Addr) (n cap x : Nat) (w : World) (hs : SrcB w (.slice sp n cap) bs) (hn : n ≤ 70368744177664) (hl : lenN x = 5) :
    Calls Tryd.prog 38 #[.slice sp n cap, .int .u64 x] w fun e w' => e = .returned (.slice (some ⟨w.heap.size, 0, none⟩) (n + 5) (n + 5)) ∧ NewB w w' (n + 5) (n + 5) (bs ++ 254 :: leB x 4) := by
  obtain ⟨i0, hi, hz0, hz1, hz2⟩ := info_parts info_u8
  have HS := Lib.hid hs
  have HL := Lib.hid (show ((lenN x : Nat) : Int) = 5 by rw [hl]; rfl)
  clear hs hl
  go_enter Tryd.func38, Tryd.ntmps38
  go_wp2_with (first | (go_at_call 41; refine (len_is x 5 _ HL.out).mono ?_; rintro e w' ⟨rfl, rfl⟩) | (go_at_call 69; refine (room_any bs sp n cap 5 5 rfl _ HS.out hn (by omega)).mono ?_; rintro e w1 ⟨rfl, hn1⟩; have HN1 := Lib.hid hn1; clear hn1) | (at_builtin; refine wpList_append_fits _ rfl _ _ 29 rfl w.heap.size 5 i0 1 Tryd.underlying29 hi hz1 w.heap.size n (n + 5) _ rfl (HN1.out.1.alloc _) ⟨w1.heap.size, 0, none⟩ 1 1 [.int .u8 (bv 254)] rfl rfl (cell_one_new _ _ _) (one_u8 _) (by omega) ?_; intro w2 ho hg; have HN2 := Lib.hid (HN1.out.push 254 ho hg); clear ho hg; go_frame) | (go_at_call 68; refine (lowest_any x 4 w.heap.size (n + 1) (n + 5) 4 rfl ((bs ++ [254]).map bV) _ (by omega) (by omega) (by omega) HN2.out.lt HN2.out.1).mono ?_; rintro e w3 ⟨rfl, ho, hb⟩; have HN3 := Lib.hid (HN2.out.low hb ho); clear ho hb))
  go_ret
  have h := HN3.out
  rw [List.append_assoc] at h
  exact ⟨ret_slice (by omega), newB_of h (by omega)⟩
set_option maxHeartbeats 400000 in
set_option maxRecDepth 100000 in
theorem put_8 (bs : List UInt8) (sp : Option Addr) (n cap x : Nat) (w : World) (hs : SrcB w (.slice sp n cap) bs) (hn : n ≤ 70368744177664) (hl : lenN x = 9) :
    Calls Tryd.prog 38 #[.slice sp n cap, .int .u64 x] w fun e w' => e = .returned (.slice (some ⟨w.heap.size, 0, none⟩) (n + 9) (n + 9)) ∧ NewB w w' (n + 9) (n + 9) (bs ++ 255 :: leB x 8) := by
  obtain ⟨i0, hi, hz0, hz1, hz2⟩ := info_parts info_u8
  have HS := Lib.hid hs
  have HL := Lib.hid (show ((lenN x : Nat) : Int) = 9 by rw [hl]; rfl)
  clear hs hl
  go_enter Tryd.func38, Tryd.ntmps38
  go_wp2_with (first | (go_at_call 41; refine (len_is x 9 _ HL.out).mono ?_; rintro e w' ⟨rfl, rfl⟩) | (go_at_call 69; refine (room_any bs sp n cap 9 9 rfl _ HS.out hn (by omega)).mono ?_; rintro e w1 ⟨rfl, hn1⟩; have HN1 := Lib.hid hn1; clear hn1) | (at_builtin; refine wpList_append_fits _ rfl _ _ 29 rfl w.heap.size 5 i0 1 Tryd.underlying29 hi hz1 w.heap.size n (n + 9) _ rfl (HN1.out.1.alloc _) ⟨w1.heap.size, 0, none⟩ 1 1 [.int .u8 (bv 255)] rfl rfl (cell_one_new _ _ _) (one_u8 _) (by omega) ?_; intro w2 ho hg; have HN2 := Lib.hid (HN1.out.push 255 ho hg); clear ho hg; go_frame) | (go_at_call 68; refine (lowest_any x 8 w.heap.size (n + 1) (n + 9) 8 rfl ((bs ++ [255]).map bV) _ (by omega) (by omega) (by omega) HN2.out.lt HN2.out.1).mono ?_; rintro e w3 ⟨rfl, ho, hb⟩; have HN3 := Lib.hid (HN2.out.low hb ho); clear ho hb))
  go_ret
  have h := HN3.out
  rw [List.append_assoc] at h
  exact ⟨ret_slice (by omega), newB_of h (by omega)⟩
theorem put_any (bs : List UInt8) (sp : Option Addr) (n cap x : Nat) (w : World) (hs : SrcB w (.slice sp n cap) bs) (hn : n ≤ 70368744177664) :
    Calls Tryd.prog 38 #[.slice sp n cap, .int .u64 x] w fun e w' => e = .returned (.slice (some ⟨w.heap.size, 0, none⟩) (n + lenN x) (n + lenN x)) ∧ NewB w w' (n + lenN x) (n + lenN x) (bs ++ putL x) := by
  by_cases h1 : x < 253
  · have e : lenN x = 1 := by unfold lenN; rw [if_pos h1]
    have e2 : putL x = [UInt8.ofNat x] := by unfold putL; rw [if_pos h1]
    rw [e2]
    simp only [e]
    exact put_0 bs sp n cap x w hs hn e
  by_cases h2 : x ≤ 65535
  · have e : lenN x = 3 := by unfold lenN; rw [if_neg h1, if_pos h2]
    have e2 : putL x = 253 :: leB x 2 := by unfold putL; rw [if_neg h1, if_pos h2]
    rw [e2]
    simp only [e]
    exact put_2 bs sp n cap x w hs hn e
  by_cases h3 : x ≤ 4294967295
  · have e : lenN x = 5 := by unfold lenN; rw [if_neg h1, if_neg h2, if_pos h3]
    have e2 : putL x = 254 :: leB x 4 := by unfold putL; rw [if_neg h1, if_neg h2, if_pos h3]
    rw [e2]
    simp only [e]
    exact put_4 bs sp n cap x w hs hn e
  · have e : lenN x = 9 := by unfold lenN; rw [if_neg h1, if_neg h2, if_neg h3]
    have e2 : putL x = 255 :: leB x 8 := by unfold putL; rw [if_neg h1, if_neg h2, if_neg h3]
    rw [e2]
    simp only [e]
    exact put_8 bs sp n cap x w hs hn e
end Go.Proofs.YtkabpbclmhmgfaaDoor.Sha

/-
  What the walks of package tx share: cells of an input and an output as rows, bytes of so many of them, sums that stay. No conditions beyond those that each states.
-/
namespace Go.Proofs.YtkabpbclmhmgfaaDoor.Sha
open Go Go.RowKit


theorem in_one (x : TIn) (kv : Value) (hk : kv.oneCell' = true) : (inL x kv).toArray.all (·.oneCell') = true := by
  rw [Array.all_eq_true_iff_forall_mem]
  intro u hu
  simp only [inL, ptL, List.mem_toArray, List.mem_append, List.mem_cons, List.mem_map, List.not_mem_nil, or_false] at hu
  rcases hu with (⟨a, _, rfl⟩ | rfl) | rfl | rfl
  · rfl
  · rfl
  · exact hk
  · rfl
theorem out_one (y : TOut) : (outL y).toArray.all (·.oneCell') = true := by
  rw [Array.all_eq_true_iff_forall_mem]
  intro u hu
  simp only [outL, List.mem_toArray, List.mem_cons, List.mem_map] at hu
  rcases hu with rfl | ⟨a, _, rfl⟩
  · rfl
  · rfl
theorem ins_snoc {l : List TIn} {k : Nat} {x : TIn} (h : l[k]? = some x) : insB (l.take (k + 1)) = insB (l.take k) ++ inB x := by
  have hk := (List.getElem?_eq_some_iff.1 h).1
  rw [List.take_succ_eq_append_getElem hk]
  have e : l[k] = x := (List.getElem?_eq_some_iff.1 h).2
  rw [e]
  simp [insB]
theorem outs_snoc {l : List TOut} {k : Nat} {x : TOut} (h : l[k]? = some x) : outsB (l.take (k + 1)) = outsB (l.take k) ++ outB x := by
  have hk := (List.getElem?_eq_some_iff.1 h).1
  rw [List.take_succ_eq_append_getElem hk]
  have e : l[k] = x := (List.getElem?_eq_some_iff.1 h).2
  rw [e]
  simp [outsB]
theorem ins_part {l : List TIn} {k : Nat} {x : TIn} (h : l[k]? = some x) : (insB (l.take k)).length + (inB x).length ≤ (insB l).length := by
  rw [← List.length_append, ← ins_snoc h]
  have e : insB l = insB (l.take (k + 1)) ++ insB (l.drop (k + 1)) := by
    conv => lhs; rw [← List.take_append_drop (k + 1) l]
    simp only [insB, List.flatMap_append]
  rw [e, List.length_append]
  omega
theorem outs_part {l : List TOut} {k : Nat} {x : TOut} (h : l[k]? = some x) : (outsB (l.take k)).length + (outB x).length ≤ (outsB l).length := by
  rw [← List.length_append, ← outs_snoc h]
  have e : outsB l = outsB (l.take (k + 1)) ++ outsB (l.drop (k + 1)) := by
    conv => lhs; rw [← List.take_append_drop (k + 1) l]
    simp only [outsB, List.flatMap_append]
  rw [e, List.length_append]
  omega
theorem i64_stays {x : Int} (h : 0 ≤ x ∧ x ≤ 9223372036854775807) : IntKind.i64.wrap x = x := IntWalk.i64_in _ (by omega)
theorem u64_stays {x : Int} (h : 0 ≤ x ∧ x ≤ 18446744073709551615) : IntKind.u64.wrap x = x := by rw [IntKind.wrap_u64]; omega
theorem TxSmall.bytes {t : TTx} (h : TxSmall t) : (txB t).length = 8 + lenN t.ins.length + lenN t.outs.length + (insB t.ins).length + 40 * t.outs.length := by
  simp only [txB, List.length_append, leB_length, putL_length, outsB_length t.outs h.1.2.2.1]
  omega
end Go.Proofs.YtkabpbclmhmgfaaDoor.Sha

/-
  What 'build' lays: a part over the zero value's cells, from an offset on. A place out of a digest and a number. Condition: a digest of 32 bytes.
-/
namespace Go.Proofs.YtkabpbclmhmgfaaDoor.Sha
open Go Go.RowKit

theorem fold_fill (off : Nat) : ∀ (v : List Value) (k : Nat) (cs : List Value), off + k + v.length ≤ cs.length →
    (v.zipIdx k).foldl (fun (cs : Array Value) (x : Value × Nat) => cs.setIfInBounds (off + x.2) x.1) cs.toArray = (cs.take (off + k) ++ v ++ cs.drop (off + k + v.length)).toArray
  | [], k, cs, _ => by simp
  | x :: v, k, cs, h => by
    rw [List.length_cons] at h
    rw [List.zipIdx_cons, List.foldl_cons, List.setIfInBounds_toArray, fold_fill off v (k + 1) (cs.set (off + k) x) (by rw [List.length_set]; omega)]
    congr 1
    have e1 : (cs.set (off + k) x).take (off + (k + 1)) = cs.take (off + k) ++ [x] := by
      rw [show off + (k + 1) = (off + k) + 1 by omega, List.take_succ_eq_append_getElem (by rw [List.length_set]; omega), List.getElem_set_self, List.take_set_of_le (by omega)]
    have e2 : (cs.set (off + k) x).drop (off + (k + 1) + v.length) = cs.drop (off + k + (x :: v).length) := by
      rw [List.drop_set_of_lt (by omega), List.length_cons]
      congr 1
      omega
    rw [e1, e2]
    simp
theorem fill_part (place : Nat → Option (Nat × Nat)) (i off : Nat) (v : Value) (vs cs : List Value) (rest : List (Nat × Value)) (hv : v.cells = vs.toArray) (hp : place i = some (off, vs.length)) (hl : off + vs.length ≤ cs.length) :
    Instr.fill place cs.toArray ((i, v) :: rest) = Instr.fill place (cs.take off ++ vs ++ cs.drop (off + vs.length)).toArray rest := by
  have h := fold_fill off vs 0 cs (by omega)
  rw [Instr.fill, hp]
  simp only [hv, List.size_toArray, ne_eq, not_true_eq_false, gt_iff_lt]
  rw [if_neg (by simp; omega)]
  congr 1
  rw [Nat.add_zero] at h
  rw [← h, ← Array.foldl_toList]
  simp
/-- A place built of a digest and a number. -/
theorem built_pt (h : List UInt8) (n : Nat) (hh : h.length = 32) : Tryd.prog.built 52 [(0, .agg (h.map bV).toArray), (1, .int .u32 (n : Int))] = some (ptL h n).toArray := by
  have hz : ∀ parts, Tryd.prog.built 52 parts = Instr.fill ([(0, 32), (32, 1)].toArray[·]?) (List.replicate 32 (bV 0) ++ [nV 0]).toArray parts := fun parts => by kernel_rfl
  rw [hz, fill_part _ 0 0 (.agg (h.map bV).toArray) (h.map bV) _ _ rfl (by simp [hh]) (by simp [hh]), List.take_zero, List.nil_append, List.length_map, hh, Nat.zero_add,
    fill_part _ 1 32 (.int .u32 (n : Int)) [.int .u32 (n : Int)] _ _ rfl rfl (by simp [hh])]
  have e : (h.map bV ++ (List.replicate 32 (bV 0) ++ [nV 0]).drop 32).take 32 = h.map bV := by rw [List.take_append_of_le_length (by simp [hh]), List.take_of_length_le (by simp [hh])]
  rw [e]
  have e2 : (h.map bV ++ (List.replicate 32 (bV 0) ++ [nV 0]).drop 32).drop (32 + [Value.int .u32 (n : Int)].length) = [] := List.drop_eq_nil_of_le (by simp [hh])
  rw [e2, List.append_nil]
  rfl
end Go.Proofs.YtkabpbclmhmgfaaDoor.Sha

/-
  Inputs and outputs in rows of one's own: a row of them grows, its keys lie apart from it; what such a row is as a slice. What a slice literal of one or two structures lays. No conditions beyond those that each states.
-/
namespace Go.Proofs.YtkabpbclmhmgfaaDoor.Sha
open Go Go.RowKit

theorem info_in : (Tryd.prog.info? 54).map (fun i => (i.zero, i.size, i.bytes)) = some (some (.agg (List.replicate 32 (bV 0) ++ [nV 0, .slice none 0 0, nV 0]).toArray), 35, 72) := by kernel_rfl
theorem info_out : (Tryd.prog.info? 57).map (fun i => (i.zero, i.size, i.bytes)) = some (some (.agg (uV 0 :: List.replicate 32 (bV 0)).toArray), 33, 40) := by kernel_rfl
/-- The cells of so many inputs, their keys given. -/
def insL : List TIn → List Value → List Value
  | x :: l, kv :: ks => inL x kv ++ insL l ks
  | _, _ => []
def outsL (l : List TOut) : List Value := l.flatMap outL
theorem insL_snoc (x : TIn) (kv : Value) : ∀ (l : List TIn) (ks : List Value), l.length = ks.length → insL (l ++ [x]) (ks ++ [kv]) = insL l ks ++ inL x kv
  | [], [], _ => by simp [insL]
  | y :: l, k :: ks, h => by
    simp only [List.cons_append, insL, insL_snoc x kv l ks (by simpa using h), List.append_assoc]
theorem insL_length : ∀ (l : List TIn) (ks : List Value), l.length = ks.length → InsOk l → (insL l ks).length = l.length * 35
  | [], [], _, _ => rfl
  | y :: l, k :: ks, h, ho => by
    rw [insL, List.length_append, inL_length y k (ho y List.mem_cons_self).1, insL_length l ks (by simpa using h) (fun z hz => ho z (List.mem_cons_of_mem _ hz)), List.length_cons]
    omega
theorem insL_get : ∀ (l : List TIn) (ks : List Value) (i : Nat) (x : TIn) (kv : Value), InsOk l → l[i]? = some x → ks[i]? = some kv → ∀ j, j < 35 → (insL l ks)[i * 35 + j]? = (inL x kv)[j]?
  | y :: l, k :: ks, 0, x, kv, ho, hx, hk, j, hj => by
    simp only [List.getElem?_cons_zero, Option.some.injEq] at hx hk
    subst hx hk
    rw [Nat.zero_mul, Nat.zero_add, insL, List.getElem?_append_left (by rw [inL_length y k (ho y List.mem_cons_self).1]; exact hj)]
  | y :: l, k :: ks, i + 1, x, kv, ho, hx, hk, j, hj => by
    have e := inL_length y k (ho y List.mem_cons_self).1
    rw [insL, List.getElem?_append_right (by omega), e, show (i + 1) * 35 + j - 35 = i * 35 + j by omega]
    exact insL_get l ks i x kv (fun z hz => ho z (List.mem_cons_of_mem _ hz)) (by simpa using hx) (by simpa using hk) j hj
  | [], _, _, _, _, _, hx, _, _, _ => by simp at hx
  | _ :: _, [], _, _, _, _, _, hk, _, _ => by simp at hk
theorem outsL_length : ∀ (l : List TOut), OutsOk l → (outsL l).length = l.length * 33
  | [], _ => rfl
  | y :: l, ho => by
    have ih := outsL_length l (fun z hz => ho z (List.mem_cons_of_mem _ hz))
    simp only [outsL] at ih
    simp only [outsL, List.flatMap_cons, List.length_append, ih, outL_length y (ho y List.mem_cons_self).1, List.length_cons]
    omega
theorem outsL_get : ∀ (l : List TOut) (i : Nat) (y : TOut), OutsOk l → l[i]? = some y → ∀ j, j < 33 → (outsL l)[i * 33 + j]? = (outL y)[j]?
  | z :: l, 0, y, ho, hy, j, hj => by
    simp only [List.getElem?_cons_zero, Option.some.injEq] at hy
    subst hy
    rw [Nat.zero_mul, Nat.zero_add, outsL, List.flatMap_cons, List.getElem?_append_left (by rw [outL_length z (ho z List.mem_cons_self).1]; exact hj)]
  | z :: l, i + 1, y, ho, hy, j, hj => by
    have e := outL_length z (ho z List.mem_cons_self).1
    rw [outsL, List.flatMap_cons, List.getElem?_append_right (by omega), e, show (i + 1) * 33 + j - 33 = i * 33 + j by omega]
    exact outsL_get l i y (fun z hz => ho z (List.mem_cons_of_mem _ hz)) (by simpa using hy) j hj
  | [], _, _, _, hy, _, _ => by simp at hy
/-- A slice of bytes that does not lie in this block. -/
def Off (kv : Value) (q : Option Nat) : Prop := ∀ sp n cap, kv = .slice (some sp) n cap → 0 < n → q ≠ some sp.block
theorem Off.none (kv : Value) : Off kv none := fun _ _ _ _ _ e => by cases e
theorem SrcB.off {w w' : World} {v : Value} {bs : List UInt8} {q : Option Nat} (h : SrcB w v bs) (ho : Off v q) (hg : w.grownBy w' q) : SrcB w' v bs := by
  rcases h with h | ⟨h0, bb, off, cap, hv, hc, hs⟩
  · exact .inl h
  · refine .inr ⟨h0, bb, off, cap, hv, hc, fun j hj => ?_⟩
    rw [World.cell?_of_block (hg.block bb (SrcB.block h0 hs) (fun e => ho _ _ _ hv h0 e.symm))]
    exact hs j hj
theorem KeyAt.off {w w' : World} {kv : Value} {key : List UInt8} {q : Option Nat} (h : KeyAt w kv key) (ho : Off kv q) (hg : w.grownBy w' q) : KeyAt w' kv key := ⟨h.1.off ho hg, h.2⟩
theorem KeyAt.fresh {w : World} {kv : Value} {key : List UInt8} {k : Nat} (h : KeyAt w kv key) (hk : w.heap.size ≤ k) : Off kv (some k) := fun sp n cap hv hn e => by
  rcases h.1 with ⟨sp', cap', hv', _⟩ | ⟨h0, bb, off, cap', hv', _, hs⟩
  · rw [hv'] at hv
    cases hv
    omega
  · have := SrcB.block h0 hs
    rw [hv'] at hv
    cases hv
    have e2 : k = bb := Option.some.inj e
    omega
/-- A row of inputs of one's own; its keys lie apart from it, and from all that was there before. -/
def InsOwn (base : Nat) (w : World) (v : Value) (l : List TIn) (ks : List Value) : Prop :=
  l.length = ks.length ∧ w.ownsRow base 54 35 v l.length (insL l ks) ∧ InsOk l ∧ ∀ (i : Nat) x kv, l[i]? = some x → ks[i]? = some kv → KeyAt w kv x.key ∧ (∀ q, q < base → Off kv (some q)) ∧ Off kv v.ownBlock
def OutsOwn (base : Nat) (w : World) (v : Value) (l : List TOut) : Prop := w.ownsRow base 57 33 v l.length (outsL l) ∧ OutsOk l
theorem InsOwn.nil (base : Nat) (w : World) : InsOwn base w (.slice none 0 0) [] [] := ⟨rfl, World.ownsRow_nil _ _ _ _, fun _ h => absurd h (by simp), fun i x kv h => absurd h (by simp)⟩
theorem OutsOwn.nil (base : Nat) (w : World) : OutsOwn base w (.slice none 0 0) [] := ⟨World.ownsRow_nil _ _ _ _, fun _ h => absurd h (by simp)⟩
section
variable {base : Nat} {w w' : World} {v v' : Value} {l : List TIn} {ks : List Value} {m : List TOut}
theorem own_far {size n q : Nat} {e : TypeId} {xs : List Value} (h : w.ownsRow base e size v n xs) (hq : q < base) : v.ownBlock = none ∨ v.ownBlock ≠ some q := by
  cases hv : v.ownBlock with
  | none => exact .inl rfl
  | some k => exact .inr (fun e => by have := (h.lt k hv).1; have := Option.some.inj e; omega)
theorem InsOwn.other {q : Nat} (h : InsOwn base w v l ks) (hg : w.grownBy w' (some q)) (hq : q < base) : InsOwn base w' v l ks :=
  ⟨h.1, h.2.1.kept hg (own_far h.2.1 hq), h.2.2.1, fun i x kv hx hk => ⟨(h.2.2.2 i x kv hx hk).1.off ((h.2.2.2 i x kv hx hk).2.1 q hq) hg, (h.2.2.2 i x kv hx hk).2⟩⟩
theorem OutsOwn.other {q : Nat} (h : OutsOwn base w v m) (hg : w.grownBy w' (some q)) (hq : q < base) : OutsOwn base w' v m := ⟨h.1.kept hg (own_far h.1 hq), h.2⟩
theorem InsOwn.keep (h : InsOwn base w v l ks) (hb : Below w.heap.size w w') : InsOwn base w' v l ks :=
  ⟨h.1, own_kept h.2.1 hb, h.2.2.1, fun i x kv hx hk => ⟨(h.2.2.2 i x kv hx hk).1.below hb, (h.2.2.2 i x kv hx hk).2⟩⟩
theorem OutsOwn.kept (h : OutsOwn base w v m) {q : Option Nat} (hg : w.grownBy w' q) (hb : v.ownBlock = none ∨ v.ownBlock ≠ q) : OutsOwn base w' v m := ⟨h.1.kept hg hb, h.2⟩
theorem OutsOwn.keep (h : OutsOwn base w v m) (hb : Below w.heap.size w w') : OutsOwn base w' v m := ⟨own_kept h.1 hb, h.2⟩
theorem InsOwn.push (h : InsOwn base w v l ks) {x : TIn} {kv : Value} (hx : InOk x) (hk : KeyAt w kv x.key) (hr : ∀ q, q < base → Off kv (some q)) (ho : Off kv v.ownBlock)
    (hown : w'.ownsRow base 54 35 v' (l.length + 1) (insL l ks ++ inL x kv)) (hg : w.grownBy w' v.ownBlock) (hat : v'.ownBlock = v.ownBlock ∨ v'.ownBlock = some w.heap.size) : InsOwn base w' v' (l ++ [x]) (ks ++ [kv]) := by
  refine ⟨by simp [h.1], ?_, ?_, ?_⟩
  · rw [insL_snoc x kv l ks h.1, List.length_append]
    exact hown
  · intro z hz
    rcases List.mem_append.1 hz with hz | hz
    · exact h.2.2.1 z hz
    · rw [List.mem_singleton.1 hz]; exact hx
  · have move : ∀ {x : TIn} {kv : Value}, KeyAt w kv x.key → (∀ q, q < base → Off kv (some q)) → Off kv v.ownBlock → KeyAt w' kv x.key ∧ (∀ q, q < base → Off kv (some q)) ∧ Off kv v'.ownBlock := fun {x kv} a b c => by
      refine ⟨a.off c hg, b, ?_⟩
      rcases hat with e | e
      · rw [e]; exact c
      · rw [e]; exact a.fresh (Nat.le_refl _)
    intro i y kw hy hkw
    by_cases hi : i < l.length
    · rw [List.getElem?_append_left hi] at hy
      rw [List.getElem?_append_left (by rw [← h.1]; exact hi)] at hkw
      obtain ⟨a, b, c⟩ := h.2.2.2 i y kw hy hkw
      exact move a b c
    · have hil : i = l.length := by
        have := (List.getElem?_eq_some_iff.1 hy).1
        simp at this
        omega
      subst hil
      rw [List.getElem?_append_right (Nat.le_refl _), Nat.sub_self] at hy
      have h1 := h.1
      rw [List.getElem?_append_right (by omega), h1, Nat.sub_self] at hkw
      simp only [List.getElem?_cons_zero, Option.some.injEq] at hy hkw
      subst hy hkw
      exact move hk hr ho
theorem OutsOwn.push (h : OutsOwn base w v m) {y : TOut} (hy : OutOk y) (hown : w'.ownsRow base 57 33 v' (m.length + 1) (outsL m ++ outL y)) : OutsOwn base w' v' (m ++ [y]) := by
  refine ⟨?_, ?_⟩
  · have e : outsL (m ++ [y]) = outsL m ++ outL y := by simp [outsL, List.flatMap_append]
    rw [e, List.length_append]
    exact hown
  · intro z hz
    rcases List.mem_append.1 hz with hz | hz
    · exact h.2 z hz
    · rw [List.mem_singleton.1 hz]; exact hy
/-- Such a row as a slice of inputs. -/
theorem InsOwn.at (h : InsOwn base w v l ks) : InsAt w v l := by
  obtain ⟨h1, h2, h3, h4⟩ := h
  rcases h2.2 with ⟨hv, h0⟩ | ⟨g, cap, cur, hv, hb, hc, hn, hm, hs, ht⟩
  · exact ⟨none, 0, by rw [hv, h0], by omega, fun h => by omega⟩
  · subst hv
    refine ⟨_, cap, rfl, hn, fun h0 => ⟨g, 0, rfl, fun i x hx => ?_⟩⟩
    have hi := (List.getElem?_eq_some_iff.1 hx).1
    obtain ⟨kv, hkv⟩ : ∃ kv, ks[i]? = some kv := ⟨_, List.getElem?_eq_getElem (by omega)⟩
    have hxo := h3 x (List.mem_of_getElem? hx)
    refine ⟨hxo, kv, (h4 i x kv hx hkv).1, fun j u hj => ?_⟩
    have hj35 : j < 35 := by
      have := (List.getElem?_eq_some_iff.1 hj).1
      rwa [inL_length x kv hxo.1] at this
    rw [Nat.zero_add, h2.cellAt (i * 35 + j) (by omega), insL_get l ks i x kv h3 hx hkv j hj35]
    exact hj
theorem OutsOwn.at (h : OutsOwn base w v m) : OutsAt w v m := by
  obtain ⟨h2, h3⟩ := h
  rcases h2.2 with ⟨hv, h0⟩ | ⟨g, cap, cur, hv, hb, hc, hn, hm, hs, ht⟩
  · exact ⟨none, 0, by rw [hv, h0], by omega, fun h => by omega⟩
  · subst hv
    refine ⟨_, cap, rfl, hn, fun h0 => ⟨g, 0, rfl, fun i x hx => ?_⟩⟩
    have hi := (List.getElem?_eq_some_iff.1 hx).1
    have hxo := h3 x (List.mem_of_getElem? hx)
    refine ⟨hxo, fun j u hj => ?_⟩
    have hj35 : j < 33 := by
      have := (List.getElem?_eq_some_iff.1 hj).1
      rwa [outL_length x hxo.1] at this
    rw [Nat.zero_add, h2.cellAt (i * 33 + j) (by omega), outsL_get m i x h3 hx j hj35]
    exact hj
end
/-- A literal of one structure, of two. -/
theorem fill_one (size : Nat) (zs : List Value) (hz : zs.length = size) (cs : List Value) (hc : cs.length = size) : Instr.fill (fun i => some (i * size, size)) zs.toArray [(0, .agg cs.toArray)] = some cs.toArray := by
  have h := fill_part (fun i => some (i * size, size)) 0 0 (.agg cs.toArray) cs zs [] rfl (by simp [hc]) (by omega)
  rw [h]
  have e : zs.drop (0 + cs.length) = [] := List.drop_eq_nil_of_le (by omega)
  rw [List.take_zero, List.nil_append, e, List.append_nil]
  rfl
theorem fill_two (size : Nat) (zs : List Value) (hz : zs.length = 2 * size) (cs ds : List Value) (hc : cs.length = size) (hd : ds.length = size) : Instr.fill (fun i => some (i * size, size)) zs.toArray [(0, .agg cs.toArray), (1, .agg ds.toArray)] = some (cs ++ ds).toArray := by
  have h := fill_part (fun i => some (i * size, size)) 0 0 (.agg cs.toArray) cs zs [(1, .agg ds.toArray)] rfl (by simp [hc]) (by omega)
  rw [h, List.take_zero, List.nil_append]
  have h2 := fill_part (fun i => some (i * size, size)) 1 size (.agg ds.toArray) ds (cs ++ zs.drop (0 + cs.length)) [] rfl (by simp [hd]) (by rw [List.length_append, List.length_drop]; omega)
  rw [h2]
  have e : (cs ++ zs.drop (0 + cs.length)).drop (size + ds.length) = [] := List.drop_eq_nil_of_le (by rw [List.length_append, List.length_drop]; omega)
  rw [e, List.append_nil, List.take_append_of_le_length (by omega), List.take_of_length_le (by omega)]
  rfl
section
variable {P : Program}
theorem wp_slice_one {o : Oper} {a : Act} {w : World} {K : Act → World → Prop} {Q : Exit → Act → World → Prop} (t e : TypeId) (x : Operand) (ho : o.op = .buildSlice t 1 #[(0, x)]) (cs : List Value) (hx : a.eval x = .agg cs.toArray)
    (hu : P.underlying t = some (.slice e)) (i : TypeInfo) (z : Value) (hi : P.info? e = some i) (hz : i.zero = some z) (hs : i.size = cs.length) (hp : 0 < cs.length) (hm : cs.length ≤ 16777216)
    (h : K (a.put o.dst (.slice (some ⟨w.heap.size, 0, none⟩) 1 1)) (w.alloc (.cells cs.toArray e))) : o.wp P a w K Q := by
  refine wp_buildSlice t e 1 _ ho cs.toArray i z hu hi hz (by rw [hs]; omega) (by rw [hs]; omega) ?_ h
  have e1 : (Array.map (fun (q : Nat × Operand) => (q.1, a.eval q.2)) #[(0, x)]).toList = [(0, .agg cs.toArray)] := by simp [hx]
  rw [show (Array.map (fun (i, x) => (i, a.eval x)) #[(0, x)]).toList = [(0, .agg cs.toArray)] from e1, ← Array.toArray_toList (xs := Array.map _ _)]
  exact fill_one i.size _ (by simp) cs hs.symm
theorem wpList_slice_one {ops : Array Oper} {rest : List Oper} {o : Oper} {a : Act} {w : World} {Q : Exit → Act → World → Prop} (hg : o.guard = none) (t e : TypeId) (x : Operand) (ho : o.op = .buildSlice t 1 #[(0, x)]) (cs : List Value) (hx : a.eval x = .agg cs.toArray)
    (hu : P.underlying t = some (.slice e)) (i : TypeInfo) (z : Value) (hi : P.info? e = some i) (hz : i.zero = some z) (hs : i.size = cs.length) (hp : 0 < cs.length) (hm : cs.length ≤ 16777216)
    (h : wpList P ops Q rest (a.put o.dst (.slice (some ⟨w.heap.size, 0, none⟩) 1 1)) (w.alloc (.cells cs.toArray e))) : wpList P ops Q (o :: rest) a w :=
  wpList_plain hg fun _ hK => wp_slice_one t e x ho cs hx hu i z hi hz hs hp hm (hK _ _ h)
theorem wpList_slice_two {ops : Array Oper} {rest : List Oper} {o : Oper} {a : Act} {w : World} {Q : Exit → Act → World → Prop} (hg : o.guard = none) (t e : TypeId) (x y : Operand) (ho : o.op = .buildSlice t 2 #[(0, x), (1, y)]) (cs ds : List Value) (hx : a.eval x = .agg cs.toArray) (hy : a.eval y = .agg ds.toArray)
    (hu : P.underlying t = some (.slice e)) (i : TypeInfo) (z : Value) (hi : P.info? e = some i) (hz : i.zero = some z) (hs : i.size = cs.length) (hs2 : i.size = ds.length) (hp : 0 < cs.length) (hm : cs.length ≤ 16777)
    (h : wpList P ops Q rest (a.put o.dst (.slice (some ⟨w.heap.size, 0, none⟩) 2 2)) (w.alloc (.cells (cs ++ ds).toArray e))) : wpList P ops Q (o :: rest) a w :=
  wpList_plain hg fun _ hK => by
    refine wp_buildSlice t e 2 _ ho (cs ++ ds).toArray i z hu hi hz (by rw [hs]; omega) (by rw [hs]; omega) ?_ (hK _ _ h)
    have e1 : (Array.map (fun (q : Nat × Operand) => (q.1, a.eval q.2)) #[(0, x), (1, y)]).toList = [(0, .agg cs.toArray), (1, .agg ds.toArray)] := by simp [hx, hy]
    rw [show (Array.map (fun (i, x) => (i, a.eval x)) #[(0, x), (1, y)]).toList = [(0, .agg cs.toArray), (1, .agg ds.toArray)] from e1, ← Array.toArray_toList (xs := Array.map _ _)]
    exact fill_two i.size _ (by simp) cs ds hs.symm hs2.symm
end
end Go.Proofs.YtkabpbclmhmgfaaDoor.Sha

/-
  Plain mathematics of so many things read one behind the other, whether or not an error was met between: they leave and meet what those do that stop at the first error. No conditions.
-/
namespace Go.Proofs.YtkabpbclmhmgfaaDoor.Sha
open Go Go.RowKit

section
variable {α β : Type} {p q : Par α}
/-- So many, whatever is met. -/
def manyS (p : Par α) : Nat → Par (List α)
  | 0, bs, c => ([], bs, c)
  | n + 1, bs, c => ((manyS p n bs c).1 ++ [(p (manyS p n bs c).2.1 (manyS p n bs c).2.2).1], (p (manyS p n bs c).2.1 (manyS p n bs c).2.2).2)
theorem manyS_cons (p : Par α) : ∀ (n : Nat) (bs : List UInt8) (c : Nat), manyS p (n + 1) bs c = thenP p (fun a => mapP (a :: ·) (manyS p n)) bs c
  | 0, bs, c => rfl
  | n + 1, bs, c => by
    have ih := manyS_cons p n bs c
    rw [manyS, ih]
    rfl
theorem manyS_length (p : Par α) : ∀ (n : Nat) (bs : List UInt8) (c : Nat), (manyS p n bs c).1.length = n
  | 0, _, _ => rfl
  | n + 1, bs, c => by
    rw [manyS]
    simp [manyS_length p n bs c]
/-- Behind an error nothing is read. -/
def Still (p : Par α) : Prop := ∀ bs c, c ≠ 0 → (p bs c).2 = (bs, c)
theorem Still.andThen {f : α → Par β} (h1 : Still p) (h2 : ∀ a, Still (f a)) : Still (thenP p f) := fun bs c hc => by
  have e := h1 bs c hc
  unfold thenP
  rw [e]
  exact h2 _ bs c hc
theorem Still.map (f : α → β) (h : Still p) : Still (mapP f p) := fun bs c hc => h bs c hc
theorem still_manyS (h : Still p) : ∀ n, Still (manyS p n)
  | 0 => fun _ _ _ => rfl
  | n + 1 => fun bs c hc => by
    have e := still_manyS h n bs c hc
    rw [manyS, e]
    exact h bs c hc
theorem still_manyP (_h : Still p) : ∀ n, Still (manyP p n)
  | 0 => fun _ _ _ => rfl
  | n + 1 => fun bs c hc => by
    rw [manyP, if_pos hc]
/-- Two that leave and meet the same, and are the same where nothing is met. -/
def Sim (p q : Par α) : Prop := ∀ bs c, (p bs c).2 = (q bs c).2 ∧ ((p bs c).2.2 = 0 → p bs c = q bs c)
theorem Sim.refl (p : Par α) : Sim p p := fun _ _ => ⟨rfl, fun _ => rfl⟩
theorem Sim.andThen {f g : α → Par β} (h1 : Sim p q) (h2 : ∀ a, Sim (f a) (g a)) (s1 : ∀ a, Still (f a)) (s2 : ∀ a, Still (g a)) : Sim (thenP p f) (thenP q g) := fun bs c => by
  obtain ⟨e1, e2⟩ := h1 bs c
  unfold thenP
  by_cases hd : (p bs c).2.2 = 0
  · have e := e2 hd
    rw [← e]
    exact h2 _ _ _
  · rw [← e1]
    have a1 := s1 (p bs c).1 (p bs c).2.1 (p bs c).2.2 hd
    have a2 := s2 (q bs c).1 (p bs c).2.1 (p bs c).2.2 hd
    exact ⟨a1.trans a2.symm, fun h0 => by rw [a1] at h0; exact absurd h0 hd⟩
theorem Sim.map (f : α → β) (h : Sim p q) : Sim (mapP f p) (mapP f q) := fun bs c => by
  obtain ⟨e1, e2⟩ := h bs c
  unfold mapP
  exact ⟨e1, fun h0 => by rw [e2 h0]⟩
theorem sim_many (h : Still p) : ∀ n, Sim (manyP p n) (manyS p n)
  | 0 => fun _ _ => ⟨rfl, fun _ => rfl⟩
  | n + 1 => fun bs c => by
    by_cases hc : c ≠ 0
    · have e := still_manyS h (n + 1) bs c hc
      rw [e, manyP, if_pos hc]
      exact ⟨rfl, fun h0 => absurd h0 hc⟩
    · rw [manyS_cons, manyP, if_neg hc]
      exact (Sim.refl p).andThen (fun a => (sim_many h n).map (a :: ·)) (fun a => (still_manyP h n).map _) (fun a => (still_manyS h n).map _) bs c
end
theorem still_take (k : Nat) : Still (takeL k) := fun bs c hc => by rw [takeL_err k bs c hc]
theorem still_num (most : Nat) : Still (numL most) := fun bs c hc => by rw [numL_err most bs c hc]
theorem still_le (k : Nat) : Still (leP k) := (still_take k).map _
theorem still_in : Still inP := (still_take 32).andThen fun _ => (still_le 4).andThen fun _ => (still_num 80).andThen fun k => (still_take k).andThen fun _ => (still_le 4).map _
theorem still_out : Still outP := (still_le 8).andThen fun _ => (still_take 32).map _
/-- A transaction, whatever is met between. -/
def txS : Par TTx := thenP (leP 4) fun v => thenP (numL 50) fun n => thenP (manyS inP n) fun is => thenP (numL 50) fun m => thenP (manyS outP m) fun os => mapP (fun t => ⟨v, is, os, t⟩) (leP 4)
theorem sim_tx : Sim txP txS :=
  (Sim.refl _).andThen (fun _ => (Sim.refl _).andThen (fun n => (sim_many still_in n).andThen (fun _ => (Sim.refl _).andThen (fun m => (sim_many still_out m).andThen (fun _ => Sim.refl _) (fun _ => (still_le 4).map _) (fun _ => (still_le 4).map _))
    (fun m => (still_manyP still_out m).andThen fun _ => (still_le 4).map _) (fun m => (still_manyS still_out m).andThen fun _ => (still_le 4).map _))
    (fun _ => (still_num 50).andThen fun m => (still_manyP still_out m).andThen fun _ => (still_le 4).map _) (fun _ => (still_num 50).andThen fun m => (still_manyS still_out m).andThen fun _ => (still_le 4).map _))
    (fun n => (still_manyP still_in n).andThen fun _ => (still_num 50).andThen fun m => (still_manyP still_out m).andThen fun _ => (still_le 4).map _) (fun n => (still_manyS still_in n).andThen fun _ => (still_num 50).andThen fun m => (still_manyS still_out m).andThen fun _ => (still_le 4).map _))
    (fun _ => (still_num 50).andThen fun n => (still_manyP still_in n).andThen fun _ => (still_num 50).andThen fun m => (still_manyP still_out m).andThen fun _ => (still_le 4).map _) (fun _ => (still_num 50).andThen fun n => (still_manyS still_in n).andThen fun _ => (still_num 50).andThen fun m => (still_manyS still_out m).andThen fun _ => (still_le 4).map _)
theorem takeTx_S (bs : List UInt8) (c : Nat) : takeTx bs c = if (txS bs c).2.2 = 0 then txS bs c else (noTx, (txS bs c).2) := by
  obtain ⟨e1, e2⟩ := sim_tx bs c
  unfold takeTx
  rw [← e1]
  split
  · rename_i h
    exact e2 h
  · rfl
/-- What is left is no longer than what was there. -/
def Less {α : Type} (p : Par α) : Prop := ∀ bs c, (p bs c).2.1.length ≤ bs.length
theorem less_take (k : Nat) : Less (takeL k) := fun bs c => by
  unfold takeL
  split
  · exact Nat.le_refl _
  · split
    · exact Nat.le_refl _
    · rw [List.length_drop]; omega
theorem Less.andThen {α β : Type} {p : Par α} {f : α → Par β} (h1 : Less p) (h2 : ∀ a, Less (f a)) : Less (thenP p f) := fun bs c => Nat.le_trans (h2 _ _ _) (h1 bs c)
theorem Less.map {α β : Type} {p : Par α} (f : α → β) (h : Less p) : Less (mapP f p) := h
theorem less_le (k : Nat) : Less (leP k) := (less_take k).map _
/-- What Num answers out of the bytes that it took. -/
def numEnd (most k : Nat) (u : List UInt8 × List UInt8 × Nat) : Nat × List UInt8 × Nat :=
  if u.2.2 ≠ 0 then (0, u.2.1, u.2.2) else if lenN (leN u.1) ≠ 1 + k then (0, u.2.1, 2) else if most < leN u.1 then (0, u.2.1, 4) else (leN u.1, u.2.1, 0)
theorem numL_end (most : Nat) (bs : List UInt8) (c : Nat) : numL most bs c = numEnd most (widN (leN (takeL 1 bs c).1)) (if widN (leN (takeL 1 bs c).1) = 0 then takeL 1 bs c else takeL (widN (leN (takeL 1 bs c).1)) (takeL 1 bs c).2.1 (takeL 1 bs c).2.2) := rfl
theorem numEnd_le (most k : Nat) (u : List UInt8 × List UInt8 × Nat) : (numEnd most k u).1 ≤ most ∧ (numEnd most k u).2.1 = u.2.1 := by
  unfold numEnd
  split
  · exact ⟨Nat.zero_le _, rfl⟩
  · split
    · exact ⟨Nat.zero_le _, rfl⟩
    · split
      · exact ⟨Nat.zero_le _, rfl⟩
      · rename_i h
        exact ⟨Nat.le_of_not_lt h, rfl⟩
theorem less_num (most : Nat) : Less (numL most) := fun bs c => by
  have h1 := less_take 1 bs c
  have h2 := less_take (widN (leN (takeL 1 bs c).1)) (takeL 1 bs c).2.1 (takeL 1 bs c).2.2
  rw [numL_end, (numEnd_le _ _ _).2]
  split
  · exact h1
  · exact Nat.le_trans h2 h1
theorem less_manyS {α : Type} {p : Par α} (h : Less p) : ∀ n, Less (manyS p n)
  | 0 => fun _ _ => Nat.le_refl _
  | n + 1 => fun bs c => Nat.le_trans (h _ _) (less_manyS h n bs c)
theorem less_in : Less inP := (less_take 32).andThen fun _ => (less_le 4).andThen fun _ => (less_num 80).andThen fun k => (less_take k).andThen fun _ => (less_le 4).map _
theorem less_out : Less outP := (less_le 8).andThen fun _ => (less_take 32).map _
theorem numL_most (most : Nat) (bs : List UInt8) (c : Nat) : (numL most bs c).1 ≤ most := by
  rw [numL_end]
  exact (numEnd_le _ _ _).1
theorem leP_lt (k : Nat) (bs : List UInt8) (c : Nat) : (leP k bs c).1 < 256 ^ k := by
  have h := takeL_le k bs c
  exact Nat.lt_of_lt_of_le (leN_lt _) (Nat.pow_le_pow_right (by omega) h)
theorem pow4 : (256 : Nat) ^ 4 = 4294967296 := by decide
theorem pow8 : (256 : Nat) ^ 8 = 18446744073709551616 := by decide
theorem le4 (bs : List UInt8) (c : Nat) : (leP 4 bs c).1 ≤ 4294967295 := by
  have := leP_lt 4 bs c
  rw [pow4] at this
  omega
theorem le8 (bs : List UInt8) (c : Nat) : (leP 8 bs c).1 ≤ 18446744073709551615 := by
  have := leP_lt 8 bs c
  rw [pow8] at this
  omega
theorem inP_laid (bs x1 b1 b2 b3 x3 b4 b5 : List UInt8) (c d1 d2 d3 d4 d5 n k s : Nat) (h1 : takeL 32 bs c = (x1, b1, d1)) (h2 : leP 4 b1 d1 = (n, b2, d2)) (h3 : numL 80 b2 d2 = (k, b3, d3)) (h4 : takeL k b3 d3 = (x3, b4, d4)) (h5 : leP 4 b4 d4 = (s, b5, d5)) :
    inP bs c = (⟨padH x1, n, x3, s⟩, b5, d5) := by
  simp only [inP, thenP, mapP, h1, h2, h3, h4, h5]
theorem inP_ok (bs : List UInt8) (c : Nat) : InOk (inP bs c).1 := by
  obtain ⟨x1, b1, d1, h1⟩ : ∃ x b d, takeL 32 bs c = (x, b, d) := ⟨_, _, _, rfl⟩
  obtain ⟨n, b2, d2, h2⟩ : ∃ x b d, leP 4 b1 d1 = (x, b, d) := ⟨_, _, _, rfl⟩
  obtain ⟨k, b3, d3, h3⟩ : ∃ x b d, numL 80 b2 d2 = (x, b, d) := ⟨_, _, _, rfl⟩
  obtain ⟨x3, b4, d4, h4⟩ : ∃ x b d, takeL k b3 d3 = (x, b, d) := ⟨_, _, _, rfl⟩
  obtain ⟨s, b5, d5, h5⟩ : ∃ x b d, leP 4 b4 d4 = (x, b, d) := ⟨_, _, _, rfl⟩
  rw [inP_laid bs x1 b1 b2 b3 x3 b4 b5 c d1 d2 d3 d4 d5 n k s h1 h2 h3 h4 h5]
  have a1 := takeL_le 32 bs c
  have a2 := le4 b1 d1
  have a3 := le4 b4 d4
  rw [h1] at a1
  rw [h2] at a2
  rw [h5] at a3
  exact ⟨padH_length a1, a2, a3⟩
theorem outP_laid (bs x2 b1 b2 : List UInt8) (c d1 d2 v : Nat) (h1 : leP 8 bs c = (v, b1, d1)) (h2 : takeL 32 b1 d1 = (x2, b2, d2)) : outP bs c = (⟨v, padH x2⟩, b2, d2) := by
  simp only [outP, thenP, mapP, h1, h2]
theorem outP_ok (bs : List UInt8) (c : Nat) : OutOk (outP bs c).1 := by
  obtain ⟨v, b1, d1, h1⟩ : ∃ x b d, leP 8 bs c = (x, b, d) := ⟨_, _, _, rfl⟩
  obtain ⟨x2, b2, d2, h2⟩ : ∃ x b d, takeL 32 b1 d1 = (x, b, d) := ⟨_, _, _, rfl⟩
  rw [outP_laid bs x2 b1 b2 c d1 d2 v h1 h2]
  have a1 := le8 bs c
  have a2 := takeL_le 32 b1 d1
  rw [h1] at a1
  rw [h2] at a2
  exact ⟨padH_length a2, a1⟩
end Go.Proofs.YtkabpbclmhmgfaaDoor.Sha
