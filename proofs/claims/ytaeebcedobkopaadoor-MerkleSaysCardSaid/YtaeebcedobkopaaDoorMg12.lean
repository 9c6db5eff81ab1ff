/-
  Texts of this proof joined into one file: MkClimbRef, MkClimbRefNo, MkSaysWalk. What each holds, and under which conditions, its own first sentence tells.
-/
import Derived.IntWalk
import Derived.Test.YtaeebcedobkopaaDoorMg08
import Derived.Test.YtaeebcedobkopaaDoorMg11
import Derived.Test.YtaeebcedobkopaaDoorMg07
import Derived.Test.YtaeebcedobkopaaDoorMg10
/-
  The statements' own Climb answers what a leaf and a way make. Nothing that was there turns. Condition: the digests lie where the slice says.
-/
namespace Go.Proofs.YtaeebcedobkopaaDoor.Sha
open Go Go.RowKit
set_option maxHeartbeats 4000000 in
set_option maxRecDepth 100000 in
theorem climbR_yes (leaf : List UInt8) (k0 y : Nat) (p : List (List UInt8)) (sp : Option Addr) (q cap : Nat) (w : World) (hlf : leaf.length = 32) (hl : HsAt w (.slice sp q cap) p) (hky : k0 < y) (hy : y ≤ 1048576) (hq : q = rowsN y) :
    Calls Tryd.prog 12 #[.agg (leaf.map bV).toArray, .int .i64 k0, .int .i64 y, .slice sp q cap] w fun e w' => e = .returned (.tuple #[.agg ((climbL prH leaf k0 p).map bV).toArray, .bool true]) ∧ Below w.heap.size w w' := by
  have hq20 : q ≤ 20 := by rw [hq]; exact rowsN_le y 20 (by omega)
  obtain ⟨R, hR⟩ : ∃ R, R = climbL prH leaf k0 p := ⟨_, rfl⟩
  have hRl : R.length = 32 := by rw [hR]; exact climbL_len p leaf k0 hlf
  rw [← hR]
  have HR := Lib.hid hR
  have HRL : Hid ((R.map bV).length = 32) := by show _ = _; simp [hRl]
  have HRS : Hid ((R.map bV).toArray.size = 32) := by show _ = _; simp [hRl]
  have HPN := Lib.hid hl.len.1
  have HL0 := Lib.hid hl
  have HLF := Lib.hid hlf
  have HQ := Lib.hid hq
  have HKY := Lib.hid hky

  clear hR hRl hl hlf hq
  go_enter Tryd.func12, Tryd.ntmps12
  go_upto_region 1 with fail
  obtain ⟨b1, f1, f2⟩ := boxes_two w (leaf.map bV).toArray (List.replicate 32 (bV 0)).toArray 24
  generalize hw1 : World.alloc _ _ = w1
  have e1 : (w.alloc (.cells (leaf.map bV).toArray 24 (0, 0))).alloc (.cells (List.replicate 32 (bV 0)).toArray 24 (0, 0)) = w1 := hw1
  rw [e1] at b1 f1 f2
  obtain ⟨g, hg⟩ : ∃ g, g = w.heap.size := ⟨_, rfl⟩
  rw [← hg] at f1 f2 ⊢
  have CL : Hid (ClAt w g leaf w1) := ⟨f1, by rw [show zM.map bV = List.replicate 32 (bV 0) by rfl]; exact f2, b1, by omega⟩
  clear hw1 e1 b1 f1 f2 hg
  have s0 : ¬ (y : Int) < 1 := by omega
  have s1 : ¬ (y : Int) > 1048576 := by omega
  have s2 : ¬ (k0 : Int) < 0 := by omega
  have s3 : ¬ (k0 : Int) ≥ (y : Int) := by omega
  have hyb := hy
  obtain ⟨RW, hrw⟩ : ∃ RW, RW = q := ⟨_, rfl⟩
  have HRW : Hid (RW = rowsN y) := by show _ = _; rw [hrw]; exact HQ.out
  have HRB : Hid (RW ≤ 20) := by show _ ≤ _; omega
  have HQR := Lib.hid hrw
  clear hrw
  go_wp2_with fail
  go_loop [10, 11] (fun vr vn => ∃ m r : Nat, m ≤ 1048576 ∧ r + rowsN m = RW ∧ vn = .int .i64 m ∧ vr = .int .i64 r) (fun _ vn => (intOf vn).toNat)
  case atStart => exact ⟨y, 0, hyb, by rw [HRW.out]; omega, rfl, rfl⟩
  case round =>
    obtain ⟨m, r, hm, hs, rfl, rfl⟩ := hrel
    have HSS := Lib.hid hs
    have hrb : r ≤ 20 := by have := HRB.out; omega
    clear hs
    by_cases h1 : 1 < m
    · have HM := Lib.hid (rowsN_more h1)
      have h1' : (m : Int) > 1 := by omega
      go_wp2_with fail
      go_round
      case rel => exact ⟨(m + 1) / 2, r + 1, by omega, by have := HSS.out; have := HM.out; omega, (congrArg (Value.int .i64) (by omega)), by go_num⟩
      case measure => simp [intOf]; omega
    · have h1' : ¬ (m : Int) > 1 := by omega
      obtain rfl : r = RW := by have := rowsN_one (n := m) (by omega); have := HSS.out; omega
      clear HSS
      obtain rfl : r = q := HQR.out
      go_wp2_with fail
      go_loopw [1, 12] (fun va vi wr => climbInv R p w g va vi wr) (fun _ vi _ => r - (intOf vi).toNat)
      case atStart => exact ⟨k0, 0, leaf, rfl, rfl, Nat.zero_le _, by have := HKY.out; omega, by rw [List.drop_zero]; exact HR.out.symm, HLF.out, CL.out⟩
      case round =>
          clear CL HR HLF
          obtain ⟨k, j, lf, rfl, rfl, hj, hk20, hc, hlfl, hat⟩ := hrel
          have HC := Lib.hid hc
          have C := Lib.hid hat
          have HLFL := Lib.hid hlfl
          have LF : Hid ((lf.map bV).length = 32) := by show _ = _; simp [hlfl]
          have HPN' := HPN.out
          have k00 : 0 ≤ (k : Int) := by omega
          have j00 : 0 ≤ (j : Int) := by omega
          clear hc hat hlfl
          by_cases hjq : j < r
          · have t1 : (j : Int) < (r : Int) := by omega
            obtain ⟨b, o, rfl, hbw, hg⟩ := (HL0.out.below C.out.low).get (by omega)
            obtain ⟨x, hx⟩ : ∃ x, x = p.getD j [] := ⟨_, rfl⟩
            have HX := Lib.hid (hg j hjq)
            rw [← hx] at HX
            have lx : x.length = 32 := by rw [hx]; exact HL0.out.1.get (by omega)
            have LXL := Lib.hid lx
            have LX : Hid ((x.map bV).length = 32) := by show _ = _; rw [List.length_map, lx]
            have HS := Lib.hid (climb_step HC.out (by omega) hx)
            have wj : IntKind.i64.wrap ((j : Int) + 1) = (j : Int) + 1 := IntWalk.i64_in _ (by omega)
            clear hg hx lx HC HPN'
            by_cases hk2 : k % 2 = 0
            · skip
              have t2 : ((k : Int) % 2 == 0) = true := by rw [beq_iff_eq]; omega
              have HS2 := HS.out
              rw [if_pos hk2] at HS2
              have HS2 := Lib.hid HS2
              have HPL : Hid ((prH lf x).length = 32) := prH_length _ _
              have HPM : Hid (((prH lf x).map bV).length = 32) := by show _ = _; rw [List.length_map, prH_length]
              obtain ⟨nl, hnl⟩ : ∃ nl, nl = prH lf x := ⟨_, rfl⟩
              rw [← hnl] at HS2 HPL HPM
              have NL := Lib.hid hnl
              clear HS hk2 hnl
              go_wp2_with fail
              refine wp_region_held_drew (S := (fun _ => True)) (by kernel_rfl) trivial (fun hHeld => ?_)
              have bb := Below.drew (Below.refl wr.heap.size wr)
              generalize hw2 : wr.drew = w2
              rw [hw2] at bb
              have C2 := Lib.hid (C.out.below bb)
              have HX2 := Lib.hid (range_below HX.out bb)
              clear hw2 bb C HX
              refine held_take (i := 1) (v := (.slice (some ⟨b, o, none⟩) r cap)) rfl (by kernel_rfl) (by kernel_rfl) (by kernel_rfl) (fun _ _ _ h => h) (Or.inl ⟨by rfl, fun w' _ => by kernel_rfl⟩) hHeld ?_
              go_frame
              refine held_take (i := 2) (v := (.int .i64 (j : Int))) rfl (by kernel_rfl) (by kernel_rfl) (by kernel_rfl) (fun _ _ _ h => h) (Or.inl ⟨by rfl, fun w' _ => by kernel_rfl⟩) hHeld ?_
              go_frame
              refine held_take (i := 3) (v := (.pointer (some ⟨b, o + j * 32, none⟩))) rfl (by kernel_rfl) (by kernel_rfl) (by kernel_rfl) (fun _ _ _ h => h) (Or.inl ⟨by rfl, fun w' _ => by go_simp⟩) hHeld ?_
              go_frame
              refine wpAnyH_ready (rs := [0, 4]) (by kernel_rfl) (by simp) (held_cons rfl (fun K hK => ?_) (held_cons rfl (fun K hK => ?_) AllReadyH.nil))
              · skip
                rw [if_pos (by rfl)]
                refine wp_load_mid 24 (.tmp 4) rfl g 0 rfl (lf.map bV) _ (range_of_box C2.out.leaf) Tryd.underlying24 rfl (by rw [LF.out]; kernel_rfl) ?_
                go_frame
                refine hK.out _ _ trivial (fun hHeld => ?_)
                clear hK K
                refine wpAnyH_ready (rs := [4]) (by kernel_rfl) (by simp) (held_cons rfl (fun K hK => ?_) AllReadyH.nil)
                rw [if_pos (by rfl)]
                refine wp_load_mid 24 (.tmp 53) rfl b (o + j * 32) rfl (x.map bV) _ HX2.out Tryd.underlying24 rfl (by rw [LX.out]; kernel_rfl) ?_
                go_frame
                refine hK.out _ _ trivial (fun hHeld => ?_)
                clear hK K
                refine wpAnyH_ready (rs := [5]) (by kernel_rfl) (by simp) (held_cons rfl (fun K hK => ?_) AllReadyH.nil)
                go_simp
                refine (pair_any lf x HLFL.out LXL.out _).mono ?_
                rintro e w3 ⟨rfl, hb3⟩
                rw [← NL.out]
                have C3 := Lib.hid (C2.out.below hb3)
                clear hb3
                go_wp2_with fail
                refine hK.out _ _ trivial (fun hHeld => ?_)
                clear hK K
                refine wpAnyH_ready (rs := [6]) (by kernel_rfl) (by simp) (held_cons rfl (fun K hK => ?_) AllReadyH.nil)
                rw [if_pos (by rfl)]
                refine wp_store_whole 24 (.tmp 4) (.tmp 55) rfl g (lf.map bV) (nl.map bV) 24 rfl rfl (by rw [LF.out, HPM.out]) C3.out.leaf (by rw [HPM.out]; kernel_rfl) (bV_one _) ?_
                intro w4 q1 q2
                have C4 := Lib.hid (C3.out.turn q1 q2)
                clear q1 q2
                go_frame
                refine hK.out _ _ trivial (fun hHeld => ?_)
                clear hK K
                refine wpAnyH_done (by kernel_rfl) ?_ _
                clear hHeld
                go_wp2_with fail
                go_roundw
                case rel => exact ⟨k / 2, j + 1, nl, by go_num, (congrArg (Value.int .i64) (by omega)), by have := HPN.out; omega, by omega, HS2.out, HPL.out, C4.out⟩
                case measure => simp [intOf]; omega
              · skip
                rw [if_pos (by rfl)]
                refine wp_load_mid 24 (.tmp 53) rfl b (o + j * 32) rfl (x.map bV) _ HX2.out Tryd.underlying24 rfl (by rw [LX.out]; kernel_rfl) ?_
                go_frame
                refine hK.out _ _ trivial (fun hHeld => ?_)
                clear hK K
                refine wpAnyH_ready (rs := [0]) (by kernel_rfl) (by simp) (held_cons rfl (fun K hK => ?_) AllReadyH.nil)
                rw [if_pos (by rfl)]
                refine wp_load_mid 24 (.tmp 4) rfl g 0 rfl (lf.map bV) _ (range_of_box C2.out.leaf) Tryd.underlying24 rfl (by rw [LF.out]; kernel_rfl) ?_
                go_frame
                refine hK.out _ _ trivial (fun hHeld => ?_)
                clear hK K
                refine wpAnyH_ready (rs := [5]) (by kernel_rfl) (by simp) (held_cons rfl (fun K hK => ?_) AllReadyH.nil)
                go_simp
                refine (pair_any lf x HLFL.out LXL.out _).mono ?_
                rintro e w3 ⟨rfl, hb3⟩
                rw [← NL.out]
                have C3 := Lib.hid (C2.out.below hb3)
                clear hb3
                go_wp2_with fail
                refine hK.out _ _ trivial (fun hHeld => ?_)
                clear hK K
                refine wpAnyH_ready (rs := [6]) (by kernel_rfl) (by simp) (held_cons rfl (fun K hK => ?_) AllReadyH.nil)
                rw [if_pos (by rfl)]
                refine wp_store_whole 24 (.tmp 4) (.tmp 55) rfl g (lf.map bV) (nl.map bV) 24 rfl rfl (by rw [LF.out, HPM.out]) C3.out.leaf (by rw [HPM.out]; kernel_rfl) (bV_one _) ?_
                intro w4 q1 q2
                have C4 := Lib.hid (C3.out.turn q1 q2)
                clear q1 q2
                go_frame
                refine hK.out _ _ trivial (fun hHeld => ?_)
                clear hK K
                refine wpAnyH_done (by kernel_rfl) ?_ _
                clear hHeld
                go_wp2_with fail
                go_roundw
                case rel => exact ⟨k / 2, j + 1, nl, by go_num, (congrArg (Value.int .i64) (by omega)), by have := HPN.out; omega, by omega, HS2.out, HPL.out, C4.out⟩
                case measure => simp [intOf]; omega
            · skip
              have t2 : ((k : Int) % 2 == 0) = false := by rw [beq_eq_false_iff_ne]; omega
              have HS2 := HS.out
              rw [if_neg hk2] at HS2
              have HS2 := Lib.hid HS2
              have HPL : Hid ((prH x lf).length = 32) := prH_length _ _
              have HPM : Hid (((prH x lf).map bV).length = 32) := by show _ = _; rw [List.length_map, prH_length]
              obtain ⟨nl, hnl⟩ : ∃ nl, nl = prH x lf := ⟨_, rfl⟩
              rw [← hnl] at HS2 HPL HPM
              have NL := Lib.hid hnl
              clear HS hk2 hnl
              go_wp2_with fail
              refine wp_region_held_drew (S := (fun _ => True)) (by kernel_rfl) trivial (fun hHeld => ?_)
              have bb := Below.drew (Below.refl wr.heap.size wr)
              generalize hw2 : wr.drew = w2
              rw [hw2] at bb
              have C2 := Lib.hid (C.out.below bb)
              have HX2 := Lib.hid (range_below HX.out bb)
              clear hw2 bb C HX
              refine held_take (i := 0) (v := (.slice (some ⟨b, o, none⟩) r cap)) rfl (by kernel_rfl) (by kernel_rfl) (by kernel_rfl) (fun _ _ _ h => h) (Or.inl ⟨by rfl, fun w' _ => by kernel_rfl⟩) hHeld ?_
              go_frame
              refine held_take (i := 1) (v := (.int .i64 (j : Int))) rfl (by kernel_rfl) (by kernel_rfl) (by kernel_rfl) (fun _ _ _ h => h) (Or.inl ⟨by rfl, fun w' _ => by kernel_rfl⟩) hHeld ?_
              go_frame
              refine held_take (i := 2) (v := (.pointer (some ⟨b, o + j * 32, none⟩))) rfl (by kernel_rfl) (by kernel_rfl) (by kernel_rfl) (fun _ _ _ h => h) (Or.inl ⟨by rfl, fun w' _ => by go_simp⟩) hHeld ?_
              go_frame
              refine wpAnyH_ready (rs := [3, 4]) (by kernel_rfl) (by simp) (held_cons rfl (fun K hK => ?_) (held_cons rfl (fun K hK => ?_) AllReadyH.nil))
              · skip
                rw [if_pos (by rfl)]
                refine wp_load_mid 24 (.tmp 58) rfl b (o + j * 32) rfl (x.map bV) _ HX2.out Tryd.underlying24 rfl (by rw [LX.out]; kernel_rfl) ?_
                go_frame
                refine hK.out _ _ trivial (fun hHeld => ?_)
                clear hK K
                refine wpAnyH_ready (rs := [4]) (by kernel_rfl) (by simp) (held_cons rfl (fun K hK => ?_) AllReadyH.nil)
                rw [if_pos (by rfl)]
                refine wp_load_mid 24 (.tmp 4) rfl g 0 rfl (lf.map bV) _ (range_of_box C2.out.leaf) Tryd.underlying24 rfl (by rw [LF.out]; kernel_rfl) ?_
                go_frame
                refine hK.out _ _ trivial (fun hHeld => ?_)
                clear hK K
                refine wpAnyH_ready (rs := [5]) (by kernel_rfl) (by simp) (held_cons rfl (fun K hK => ?_) AllReadyH.nil)
                go_simp
                refine (pair_any x lf LXL.out HLFL.out _).mono ?_
                rintro e w3 ⟨rfl, hb3⟩
                rw [← NL.out]
                have C3 := Lib.hid (C2.out.below hb3)
                clear hb3
                go_wp2_with fail
                refine hK.out _ _ trivial (fun hHeld => ?_)
                clear hK K
                refine wpAnyH_ready (rs := [6]) (by kernel_rfl) (by simp) (held_cons rfl (fun K hK => ?_) AllReadyH.nil)
                rw [if_pos (by rfl)]
                refine wp_store_whole 24 (.tmp 4) (.tmp 61) rfl g (lf.map bV) (nl.map bV) 24 rfl rfl (by rw [LF.out, HPM.out]) C3.out.leaf (by rw [HPM.out]; kernel_rfl) (bV_one _) ?_
                intro w4 q1 q2
                have C4 := Lib.hid (C3.out.turn q1 q2)
                clear q1 q2
                go_frame
                refine hK.out _ _ trivial (fun hHeld => ?_)
                clear hK K
                refine wpAnyH_done (by kernel_rfl) ?_ _
                clear hHeld
                go_wp2_with fail
                go_roundw
                case rel => exact ⟨k / 2, j + 1, nl, by go_num, (congrArg (Value.int .i64) (by omega)), by have := HPN.out; omega, by omega, HS2.out, HPL.out, C4.out⟩
                case measure => simp [intOf]; omega
              · skip
                rw [if_pos (by rfl)]
                refine wp_load_mid 24 (.tmp 4) rfl g 0 rfl (lf.map bV) _ (range_of_box C2.out.leaf) Tryd.underlying24 rfl (by rw [LF.out]; kernel_rfl) ?_
                go_frame
                refine hK.out _ _ trivial (fun hHeld => ?_)
                clear hK K
                refine wpAnyH_ready (rs := [3]) (by kernel_rfl) (by simp) (held_cons rfl (fun K hK => ?_) AllReadyH.nil)
                rw [if_pos (by rfl)]
                refine wp_load_mid 24 (.tmp 58) rfl b (o + j * 32) rfl (x.map bV) _ HX2.out Tryd.underlying24 rfl (by rw [LX.out]; kernel_rfl) ?_
                go_frame
                refine hK.out _ _ trivial (fun hHeld => ?_)
                clear hK K
                refine wpAnyH_ready (rs := [5]) (by kernel_rfl) (by simp) (held_cons rfl (fun K hK => ?_) AllReadyH.nil)
                go_simp
                refine (pair_any x lf LXL.out HLFL.out _).mono ?_
                rintro e w3 ⟨rfl, hb3⟩
                rw [← NL.out]
                have C3 := Lib.hid (C2.out.below hb3)
                clear hb3
                go_wp2_with fail
                refine hK.out _ _ trivial (fun hHeld => ?_)
                clear hK K
                refine wpAnyH_ready (rs := [6]) (by kernel_rfl) (by simp) (held_cons rfl (fun K hK => ?_) AllReadyH.nil)
                rw [if_pos (by rfl)]
                refine wp_store_whole 24 (.tmp 4) (.tmp 61) rfl g (lf.map bV) (nl.map bV) 24 rfl rfl (by rw [LF.out, HPM.out]) C3.out.leaf (by rw [HPM.out]; kernel_rfl) (bV_one _) ?_
                intro w4 q1 q2
                have C4 := Lib.hid (C3.out.turn q1 q2)
                clear q1 q2
                go_frame
                refine hK.out _ _ trivial (fun hHeld => ?_)
                clear hK K
                refine wpAnyH_done (by kernel_rfl) ?_ _
                clear hHeld
                go_wp2_with fail
                go_roundw
                case rel => exact ⟨k / 2, j + 1, nl, by go_num, (congrArg (Value.int .i64) (by omega)), by have := HPN.out; omega, by omega, HS2.out, HPL.out, C4.out⟩
                case measure => simp [intOf]; omega
          · have t1 : ¬ (j : Int) < (r : Int) := by omega
            have hRe : lf = R := by
              have h := HC.out
              rw [List.drop_of_length_le (by omega)] at h
              exact h
            have HRE := Lib.hid hRe
            have CF := C.out
            rw [hRe] at CF
            have CF := Lib.hid CF
            clear hRe C HC HPN'
            go_wp2_with ((with_reducible show wpList _ _ _ _ _ _); first | (refine wpList_load_row rfl 24 (.tmp 4) rfl g rfl 24 (R.map bV).toArray (0, 0) _ CF.out.leaf Tryd.underlying24 rfl (by rw [HRS.out] <;> kernel_rfl) ?_; go_frame) | (refine wpList_store_whole rfl 24 (.tmp 8) (.tmp 64) rfl (g + 1) (zM.map bV) (R.map bV) 24 rfl rfl (by rw [HRL.out]; rfl) CF.out.zero (by rw [HRL.out]; kernel_rfl) (bV_one _) ?_; intro w9 q1 q2; have F9 := Lib.hid q1; have B9 := Lib.hid (CF.out.low.grown q2 CF.out.low.size (fun k hk => by cases hk; have := CF.out.lo; omega)); clear q1 q2; go_frame))
            refine bodyPost_ret (results_row_tmp rfl _ _ (g + 1) 24 (R.map bV).toArray (0, 0) _ rfl F9.out Tryd.underlying24 rfl (by rw [HRS.out]; kernel_rfl)) rfl ⟨rfl, B9.out⟩
end Go.Proofs.YtaeebcedobkopaaDoor.Sha

/-
  The statements' own Climb tells a way that is none. Nothing that was there turns. Condition: the digests lie where the slice says.
-/
namespace Go.Proofs.YtaeebcedobkopaaDoor.Sha
open Go Go.RowKit
set_option maxRecDepth 100000 in
theorem climbR_no1 (leaf : List UInt8) (x y : Int) (p : List (List UInt8)) (sp : Option Addr) (q cap : Nat) (w : World) (hl : HsAt w (.slice sp q cap) p) (h1 : x < 0) :
    Calls Tryd.prog 12 #[.agg (leaf.map bV).toArray, .int .i64 x, .int .i64 y, .slice sp q cap] w fun e w' => e = .returned (.tuple #[.agg (zM.map bV).toArray, .bool false]) ∧ Below w.heap.size w w' := by
  have s2 : x < 0 := h1
  have HZ : Hid ((zM.map bV).length = 32) := rfl
  clear hl
  go_enter Tryd.func12, Tryd.ntmps12
  go_upto_region 1 with fail
  obtain ⟨b1, f1, f2⟩ := boxes_two w (leaf.map bV).toArray (List.replicate 32 (bV 0)).toArray 24
  generalize hw1 : World.alloc _ _ = w1
  have e1 : (w.alloc (.cells (leaf.map bV).toArray 24 (0, 0))).alloc (.cells (List.replicate 32 (bV 0)).toArray 24 (0, 0)) = w1 := hw1
  rw [e1] at b1 f1 f2
  obtain ⟨g, hg⟩ : ∃ g, g = w.heap.size := ⟨_, rfl⟩
  rw [← hg] at f1 f2 ⊢
  have CL : Hid (ClAt w g leaf w1) := ⟨f1, by rw [show zM.map bV = List.replicate 32 (bV 0) by rfl]; exact f2, b1, by omega⟩
  clear hw1 e1 b1 f1 f2 hg
  by_cases a1 : y < 1
  · go_wp2_with ((with_reducible show wpList _ _ _ _ _ _); refine wpList_store_whole rfl 24 (.tmp 8) (.tmp 28) rfl (g + 1) (zM.map bV) (zM.map bV) 24 rfl rfl rfl CL.out.zero (by kernel_rfl) (bV_one _) ?_; intro w9 q1 q2; have F9 := Lib.hid q1; have B9 := Lib.hid (CL.out.low.grown q2 CL.out.low.size (fun k hk => by cases hk; have := CL.out.lo; omega)); clear q1 q2; go_frame)
    refine bodyPost_ret (results_row_tmp rfl _ _ (g + 1) 24 (zM.map bV).toArray (0, 0) _ rfl F9.out Tryd.underlying24 rfl (by kernel_rfl)) rfl ⟨rfl, B9.out⟩
  by_cases a2 : y > 1048576
  · go_wp2_with ((with_reducible show wpList _ _ _ _ _ _); refine wpList_store_whole rfl 24 (.tmp 8) (.tmp 28) rfl (g + 1) (zM.map bV) (zM.map bV) 24 rfl rfl rfl CL.out.zero (by kernel_rfl) (bV_one _) ?_; intro w9 q1 q2; have F9 := Lib.hid q1; have B9 := Lib.hid (CL.out.low.grown q2 CL.out.low.size (fun k hk => by cases hk; have := CL.out.lo; omega)); clear q1 q2; go_frame)
    refine bodyPost_ret (results_row_tmp rfl _ _ (g + 1) 24 (zM.map bV).toArray (0, 0) _ rfl F9.out Tryd.underlying24 rfl (by kernel_rfl)) rfl ⟨rfl, B9.out⟩
  go_wp2_with ((with_reducible show wpList _ _ _ _ _ _); refine wpList_store_whole rfl 24 (.tmp 8) (.tmp 28) rfl (g + 1) (zM.map bV) (zM.map bV) 24 rfl rfl rfl CL.out.zero (by kernel_rfl) (bV_one _) ?_; intro w9 q1 q2; have F9 := Lib.hid q1; have B9 := Lib.hid (CL.out.low.grown q2 CL.out.low.size (fun k hk => by cases hk; have := CL.out.lo; omega)); clear q1 q2; go_frame)
  refine bodyPost_ret (results_row_tmp rfl _ _ (g + 1) 24 (zM.map bV).toArray (0, 0) _ rfl F9.out Tryd.underlying24 rfl (by kernel_rfl)) rfl ⟨rfl, B9.out⟩
set_option maxRecDepth 100000 in
theorem climbR_no2 (leaf : List UInt8) (x y : Int) (p : List (List UInt8)) (sp : Option Addr) (q cap : Nat) (w : World) (hl : HsAt w (.slice sp q cap) p) (h1 : ¬ x < 0) (h2 : y ≤ x) :
    Calls Tryd.prog 12 #[.agg (leaf.map bV).toArray, .int .i64 x, .int .i64 y, .slice sp q cap] w fun e w' => e = .returned (.tuple #[.agg (zM.map bV).toArray, .bool false]) ∧ Below w.heap.size w w' := by
  have s1 : x ≥ y := h2
  have HZ : Hid ((zM.map bV).length = 32) := rfl
  clear hl
  go_enter Tryd.func12, Tryd.ntmps12
  go_upto_region 1 with fail
  obtain ⟨b1, f1, f2⟩ := boxes_two w (leaf.map bV).toArray (List.replicate 32 (bV 0)).toArray 24
  generalize hw1 : World.alloc _ _ = w1
  have e1 : (w.alloc (.cells (leaf.map bV).toArray 24 (0, 0))).alloc (.cells (List.replicate 32 (bV 0)).toArray 24 (0, 0)) = w1 := hw1
  rw [e1] at b1 f1 f2
  obtain ⟨g, hg⟩ : ∃ g, g = w.heap.size := ⟨_, rfl⟩
  rw [← hg] at f1 f2 ⊢
  have CL : Hid (ClAt w g leaf w1) := ⟨f1, by rw [show zM.map bV = List.replicate 32 (bV 0) by rfl]; exact f2, b1, by omega⟩
  clear hw1 e1 b1 f1 f2 hg
  by_cases a1 : y < 1
  · go_wp2_with ((with_reducible show wpList _ _ _ _ _ _); refine wpList_store_whole rfl 24 (.tmp 8) (.tmp 28) rfl (g + 1) (zM.map bV) (zM.map bV) 24 rfl rfl rfl CL.out.zero (by kernel_rfl) (bV_one _) ?_; intro w9 q1 q2; have F9 := Lib.hid q1; have B9 := Lib.hid (CL.out.low.grown q2 CL.out.low.size (fun k hk => by cases hk; have := CL.out.lo; omega)); clear q1 q2; go_frame)
    refine bodyPost_ret (results_row_tmp rfl _ _ (g + 1) 24 (zM.map bV).toArray (0, 0) _ rfl F9.out Tryd.underlying24 rfl (by kernel_rfl)) rfl ⟨rfl, B9.out⟩
  by_cases a2 : y > 1048576
  · go_wp2_with ((with_reducible show wpList _ _ _ _ _ _); refine wpList_store_whole rfl 24 (.tmp 8) (.tmp 28) rfl (g + 1) (zM.map bV) (zM.map bV) 24 rfl rfl rfl CL.out.zero (by kernel_rfl) (bV_one _) ?_; intro w9 q1 q2; have F9 := Lib.hid q1; have B9 := Lib.hid (CL.out.low.grown q2 CL.out.low.size (fun k hk => by cases hk; have := CL.out.lo; omega)); clear q1 q2; go_frame)
    refine bodyPost_ret (results_row_tmp rfl _ _ (g + 1) 24 (zM.map bV).toArray (0, 0) _ rfl F9.out Tryd.underlying24 rfl (by kernel_rfl)) rfl ⟨rfl, B9.out⟩
  go_wp2_with ((with_reducible show wpList _ _ _ _ _ _); refine wpList_store_whole rfl 24 (.tmp 8) (.tmp 28) rfl (g + 1) (zM.map bV) (zM.map bV) 24 rfl rfl rfl CL.out.zero (by kernel_rfl) (bV_one _) ?_; intro w9 q1 q2; have F9 := Lib.hid q1; have B9 := Lib.hid (CL.out.low.grown q2 CL.out.low.size (fun k hk => by cases hk; have := CL.out.lo; omega)); clear q1 q2; go_frame)
  refine bodyPost_ret (results_row_tmp rfl _ _ (g + 1) 24 (zM.map bV).toArray (0, 0) _ rfl F9.out Tryd.underlying24 rfl (by kernel_rfl)) rfl ⟨rfl, B9.out⟩
set_option maxRecDepth 100000 in
theorem climbR_no3 (leaf : List UInt8) (x y : Int) (p : List (List UInt8)) (sp : Option Addr) (q cap : Nat) (w : World) (hl : HsAt w (.slice sp q cap) p) (h1 : ¬ x < 0) (h2 : ¬ y ≤ x) (h3 : 1048576 < y) :
    Calls Tryd.prog 12 #[.agg (leaf.map bV).toArray, .int .i64 x, .int .i64 y, .slice sp q cap] w fun e w' => e = .returned (.tuple #[.agg (zM.map bV).toArray, .bool false]) ∧ Below w.heap.size w w' := by
  have s1 : ¬ y < 1 := by omega
  have s2 : y > 1048576 := h3
  have HZ : Hid ((zM.map bV).length = 32) := rfl
  clear hl
  go_enter Tryd.func12, Tryd.ntmps12
  go_upto_region 1 with fail
  obtain ⟨b1, f1, f2⟩ := boxes_two w (leaf.map bV).toArray (List.replicate 32 (bV 0)).toArray 24
  generalize hw1 : World.alloc _ _ = w1
  have e1 : (w.alloc (.cells (leaf.map bV).toArray 24 (0, 0))).alloc (.cells (List.replicate 32 (bV 0)).toArray 24 (0, 0)) = w1 := hw1
  rw [e1] at b1 f1 f2
  obtain ⟨g, hg⟩ : ∃ g, g = w.heap.size := ⟨_, rfl⟩
  rw [← hg] at f1 f2 ⊢
  have CL : Hid (ClAt w g leaf w1) := ⟨f1, by rw [show zM.map bV = List.replicate 32 (bV 0) by rfl]; exact f2, b1, by omega⟩
  clear hw1 e1 b1 f1 f2 hg
  go_wp2_with ((with_reducible show wpList _ _ _ _ _ _); refine wpList_store_whole rfl 24 (.tmp 8) (.tmp 28) rfl (g + 1) (zM.map bV) (zM.map bV) 24 rfl rfl rfl CL.out.zero (by kernel_rfl) (bV_one _) ?_; intro w9 q1 q2; have F9 := Lib.hid q1; have B9 := Lib.hid (CL.out.low.grown q2 CL.out.low.size (fun k hk => by cases hk; have := CL.out.lo; omega)); clear q1 q2; go_frame)
  refine bodyPost_ret (results_row_tmp rfl _ _ (g + 1) 24 (zM.map bV).toArray (0, 0) _ rfl F9.out Tryd.underlying24 rfl (by kernel_rfl)) rfl ⟨rfl, B9.out⟩
set_option maxRecDepth 100000 in
theorem climbR_no4 (leaf : List UInt8) (x y : Int) (p : List (List UInt8)) (sp : Option Addr) (q cap : Nat) (w : World) (hl : HsAt w (.slice sp q cap) p) (h1 : ¬ x < 0) (h2 : ¬ y ≤ x) (h3 : ¬ 1048576 < y) (h4 : ¬ q = rowsN y.toNat) :
    Calls Tryd.prog 12 #[.agg (leaf.map bV).toArray, .int .i64 x, .int .i64 y, .slice sp q cap] w fun e w' => e = .returned (.tuple #[.agg (zM.map bV).toArray, .bool false]) ∧ Below w.heap.size w w' := by
  have s0 : ¬ y < 1 := by omega
  have s1 : ¬ y > 1048576 := by omega
  have s2 : ¬ x < 0 := by omega
  have s3 : ¬ x ≥ y := by omega
  obtain ⟨y, rfl⟩ := Int.eq_ofNat_of_zero_le (show 0 ≤ y by omega)
  obtain ⟨RW, hr⟩ : ∃ r, r = rowsN y := ⟨_, rfl⟩
  rw [Int.toNat_natCast, ← hr] at h4
  have hqr : ((q : Int) != (RW : Int)) = true := by rw [bne_iff_ne]; intro e; exact h4 (by omega)
  have HRW := Lib.hid hr
  have hyb : y ≤ 1048576 := by omega
  have HRB : Hid (RW ≤ 20) := by show _ ≤ _; rw [hr]; exact rowsN_le y 20 (by omega)
  clear hr h4
  have HZ : Hid ((zM.map bV).length = 32) := rfl
  clear hl
  go_enter Tryd.func12, Tryd.ntmps12
  go_upto_region 1 with fail
  obtain ⟨b1, f1, f2⟩ := boxes_two w (leaf.map bV).toArray (List.replicate 32 (bV 0)).toArray 24
  generalize hw1 : World.alloc _ _ = w1
  have e1 : (w.alloc (.cells (leaf.map bV).toArray 24 (0, 0))).alloc (.cells (List.replicate 32 (bV 0)).toArray 24 (0, 0)) = w1 := hw1
  rw [e1] at b1 f1 f2
  obtain ⟨g, hg⟩ : ∃ g, g = w.heap.size := ⟨_, rfl⟩
  rw [← hg] at f1 f2 ⊢
  have CL : Hid (ClAt w g leaf w1) := ⟨f1, by rw [show zM.map bV = List.replicate 32 (bV 0) by rfl]; exact f2, b1, by omega⟩
  clear hw1 e1 b1 f1 f2 hg
  go_wp2_with fail
  go_loop [10, 11] (fun vr vn => ∃ m r : Nat, m ≤ 1048576 ∧ r + rowsN m = RW ∧ vn = .int .i64 m ∧ vr = .int .i64 r) (fun _ vn => (intOf vn).toNat)
  case atStart => exact ⟨y, 0, hyb, by rw [HRW.out]; omega, rfl, rfl⟩
  case round =>
    obtain ⟨m, r, hm, hs, rfl, rfl⟩ := hrel
    have HSS := Lib.hid hs
    have hrb : r ≤ 20 := by have := HRB.out; omega
    clear hs
    by_cases h1 : 1 < m
    · have HM := Lib.hid (rowsN_more h1)
      have h1' : (m : Int) > 1 := by omega
      go_wp2_with fail
      go_round
      case rel => exact ⟨(m + 1) / 2, r + 1, by omega, by have := HSS.out; have := HM.out; omega, (congrArg (Value.int .i64) (by omega)), by go_num⟩
      case measure => simp [intOf]; omega
    · have h1' : ¬ (m : Int) > 1 := by omega
      obtain rfl : r = RW := by have := rowsN_one (n := m) (by omega); have := HSS.out; omega
      clear HSS
      go_wp2_with ((with_reducible show wpList _ _ _ _ _ _); refine wpList_store_whole rfl 24 (.tmp 8) (.tmp 41) rfl (g + 1) (zM.map bV) (zM.map bV) 24 rfl rfl rfl CL.out.zero (by kernel_rfl) (bV_one _) ?_; intro w9 q1 q2; have F9 := Lib.hid q1; have B9 := Lib.hid (CL.out.low.grown q2 CL.out.low.size (fun k hk => by cases hk; have := CL.out.lo; omega)); clear q1 q2; go_frame)
      refine bodyPost_ret (results_row_tmp rfl _ _ (g + 1) 24 (zM.map bV).toArray (0, 0) _ rfl F9.out Tryd.underlying24 rfl (by kernel_rfl)) rfl ⟨rfl, B9.out⟩
theorem climbR_no (leaf : List UInt8) (x y : Int) (p : List (List UInt8)) (sp : Option Addr) (q cap : Nat) (w : World) (hl : HsAt w (.slice sp q cap) p) (h : ¬ climbOk x y q) :
    Calls Tryd.prog 12 #[.agg (leaf.map bV).toArray, .int .i64 x, .int .i64 y, .slice sp q cap] w fun e w' => e = .returned (.tuple #[.agg (zM.map bV).toArray, .bool false]) ∧ Below w.heap.size w w' := by
  by_cases h1 : x < 0
  · exact climbR_no1 leaf x y p sp q cap w hl h1
  · by_cases h2 : y ≤ x
    · exact climbR_no2 leaf x y p sp q cap w hl h1 h2
    · by_cases h3 : 1048576 < y
      · exact climbR_no3 leaf x y p sp q cap w hl h1 h2 h3
      · exact climbR_no4 leaf x y p sp q cap w hl h1 h2 h3 (fun e => h ⟨by omega, by omega, by omega, e⟩)
end Go.Proofs.YtaeebcedobkopaaDoor.Sha

/-
  The statement on roots, ways and what they make answers true. Nothing that was there turns. Conditions: digests of 32 bytes, the table is there.
-/
namespace Go.Proofs.YtaeebcedobkopaaDoor.Sha
open Go Go.RowKit
/-- A way, or that there is none. -/
def pathB (x : Int) (l : List (List UInt8)) : List (List UInt8) × Bool := if 0 ≤ x ∧ x < (l.length : Int) then (pathL prH zM x.toNat l, true) else ([], false)
/-- What a leaf and a way make, or that it is none. -/
noncomputable def climbB (leaf : List UInt8) (x y : Int) (p : List (List UInt8)) : List UInt8 × Bool := open Classical in if climbOk x y p.length then (climbL prH leaf x.toNat p, true) else (zM, false)
theorem climbB_len (leaf : List UInt8) (x y : Int) (p : List (List UInt8)) (h : leaf.length = 32) : (climbB leaf x y p).1.length = 32 := by
  unfold climbB
  split
  · exact climbL_len _ _ _ h
  · exact zM_length
theorem pathB_len (x : Int) (l : List (List UInt8)) (h : l.length ≤ 1048576) : (pathB x l).1.length ≤ 1048576 := by
  unfold pathB
  split
  · show (pathL prH zM x.toNat l).length ≤ _
    rw [pathL_length prH zM _ l _ rfl]
    have := rowsN_le l.length 20 (by omega)
    omega
  · simp
theorem path_g (x : Int) (l P : List (List UInt8)) (po : Bool) (v : Value) (w : World) (hk : KTab w) (h : HsAt w v l) (hn : l.length ≤ 1048576) (hP : P = (pathB x l).1) (hpo : po = (pathB x l).2) :
    Calls Tryd.prog 9 #[.int .i64 x, v] w fun e w' => ∃ v, e = .returned (.tuple #[v, .bool po]) ∧ HsAt w' v P ∧ Below w.heap.size w w' := by
  obtain ⟨sp, cap, rfl⟩ := h.shape
  unfold pathB at hP hpo
  by_cases hx : 0 ≤ x ∧ x < (l.length : Int)
  · rw [if_pos hx] at hP hpo
    obtain ⟨k, rfl⟩ := Int.eq_ofNat_of_zero_le hx.1
    rw [hP, hpo]
    exact (path_in k l sp _ cap w hk h hn (by omega)).mono fun e w' ⟨v, h1, h2, h3⟩ => ⟨v, h1, h2.at, h3⟩
  · rw [if_neg hx] at hP hpo
    rw [hP, hpo]
    exact (path_out x sp _ cap w (by omega)).mono fun e w' ⟨h1, h2⟩ => ⟨_, h1, HsAt.nil _ _ _, by rw [← h2]; exact Below.refl _ _⟩
theorem pathR_g (x : Int) (l P : List (List UInt8)) (po : Bool) (v : Value) (w : World) (h : HsAt w v l) (hn : l.length ≤ 1048576) (hP : P = (pathB x l).1) (hpo : po = (pathB x l).2) :
    Calls Tryd.prog 10 #[.int .i64 x, v] w fun e w' => ∃ v, e = .returned (.tuple #[v, .bool po]) ∧ HsAt w' v P ∧ Below w.heap.size w w' := by
  obtain ⟨sp, cap, rfl⟩ := h.shape
  unfold pathB at hP hpo
  by_cases hx : 0 ≤ x ∧ x < (l.length : Int)
  · rw [if_pos hx] at hP hpo
    obtain ⟨k, rfl⟩ := Int.eq_ofNat_of_zero_le hx.1
    rw [hP, hpo]
    exact (pathR_in k l sp _ cap w h hn (by omega)).mono fun e w' ⟨v, h1, h2, h3⟩ => ⟨v, h1, h2.at, h3⟩
  · rw [if_neg hx] at hP hpo
    rw [hP, hpo]
    exact (pathR_out x sp _ cap w (by omega)).mono fun e w' ⟨h1, h2⟩ => ⟨_, h1, HsAt.nil _ _ _, by rw [← h2]; exact Below.refl _ _⟩
theorem climb_g (leaf X : List UInt8) (x y : Int) (p : List (List UInt8)) (xo : Bool) (v : Value) (w : World) (hk : KTab w) (hlf : leaf.length = 32) (h : HsAt w v p) (hX : X = (climbB leaf x y p).1) (hxo : xo = (climbB leaf x y p).2) :
    Calls Tryd.prog 11 #[.agg (leaf.map bV).toArray, .int .i64 x, .int .i64 y, v] w fun e w' => e = .returned (.tuple #[.agg (X.map bV).toArray, .bool xo]) ∧ Below w.heap.size w w' := by
  obtain ⟨sp, cap, rfl⟩ := h.shape
  unfold climbB at hX hxo
  by_cases hc : climbOk x y p.length
  · rw [if_pos hc] at hX hxo
    obtain ⟨h1, h2, h3, h4⟩ := hc
    obtain ⟨k, rfl⟩ := Int.eq_ofNat_of_zero_le h1
    obtain ⟨m, rfl⟩ := Int.eq_ofNat_of_zero_le (show 0 ≤ y by omega)
    rw [hX, hxo]
    exact climb_yes leaf k m p sp _ cap w hk hlf h (by omega) (by omega) h4
  · rw [if_neg hc] at hX hxo
    rw [hX, hxo]
    exact climb_no leaf x y p sp _ cap w h hc
theorem climbR_g (leaf X : List UInt8) (x y : Int) (p : List (List UInt8)) (xo : Bool) (v : Value) (w : World) (hlf : leaf.length = 32) (h : HsAt w v p) (hX : X = (climbB leaf x y p).1) (hxo : xo = (climbB leaf x y p).2) :
    Calls Tryd.prog 12 #[.agg (leaf.map bV).toArray, .int .i64 x, .int .i64 y, v] w fun e w' => e = .returned (.tuple #[.agg (X.map bV).toArray, .bool xo]) ∧ Below w.heap.size w w' := by
  obtain ⟨sp, cap, rfl⟩ := h.shape
  unfold climbB at hX hxo
  by_cases hc : climbOk x y p.length
  · rw [if_pos hc] at hX hxo
    obtain ⟨h1, h2, h3, h4⟩ := hc
    obtain ⟨k, rfl⟩ := Int.eq_ofNat_of_zero_le h1
    obtain ⟨m, rfl⟩ := Int.eq_ofNat_of_zero_le (show 0 ≤ y by omega)
    rw [hX, hxo]
    exact climbR_yes leaf k m p sp _ cap w hlf h (by omega) (by omega) h4
  · rw [if_neg hc] at hX hxo
    rw [hX, hxo]
    exact climbR_no leaf x y p sp _ cap w h hc
theorem rootR_v (l : List (List UInt8)) (R : List UInt8) (v : Value) (w : World) (h : HsAt w v l) (hn : l.length ≤ 1048576) (hR : rootL prH zM l = R) :
    Calls Tryd.prog 15 #[v] w fun e w' => e = .returned (.agg (R.map bV).toArray) ∧ Below w.heap.size w w' := by
  obtain ⟨sp, cap, rfl⟩ := h.shape
  subst hR
  exact rootR_any l sp _ cap w h hn
set_option maxHeartbeats 2000000 in
set_option maxRecDepth 100000 in
theorem merklesays_main (l : List (List UInt8)) (v : Value) (at_ of_ : Int) (leaf : List UInt8) (p : List (List UInt8)) (u : Value) (w : World) (hl : HsAt w v l) (hm : l.length ≤ 9223372036854775807) (hlf : leaf.length = 32) (hp : HsAt w u p) (hpm : p.length ≤ 9223372036854775807) (hk : KTab w) :
    Calls Tryd.prog 3 #[v, .int .i64 at_, .int .i64 of_, .agg (leaf.map bV).toArray, u] w fun e w' => e = .returned (.bool true) ∧ Below w.heap.size w w' := by
  obtain ⟨sp, cap, rfl⟩ := hl.shape
  obtain ⟨sq, cbp, rfl⟩ := hp.shape
  obtain ⟨n, hn⟩ : ∃ n, n = l.length := ⟨_, rfl⟩
  obtain ⟨q, hq⟩ : ∃ q, q = p.length := ⟨_, rfl⟩
  rw [← hn] at hl hm ⊢
  rw [← hq] at hp hpm ⊢
  have HN := Lib.hid hn
  have HQ := Lib.hid hq
  have HLW := Lib.hid hl
  have HPW := Lib.hid hp
  have HLF := Lib.hid hlf
  have HKW := Lib.hid hk
  clear hl hn hk hq hp hlf
  by_cases h60 : n > 60
  · have t1 : (n : Int) > 60 := by omega
    go_enter Tryd.func3, Tryd.ntmps3
    go_upto_region 1 with fail
    obtain ⟨b1, f1⟩ : Below w.heap.size w (w.alloc (.cells (leaf.map bV).toArray 24 (0, 0))) ∧ (w.alloc (.cells (leaf.map bV).toArray 24 (0, 0))).heap[w.heap.size]? = some (.cells (leaf.map bV).toArray 24 (0, 0)) := ⟨(Below.refl _ _).alloc (Nat.le_refl _) _, heap_alloc_new _ _⟩
    obtain ⟨g8, hg⟩ : ∃ g, g = w.heap.size := ⟨_, rfl⟩
    generalize hw0 : World.alloc _ _ = w0
    have e1 : w.alloc (.cells (leaf.map bV).toArray 24 (0, 0)) = w0 := hw0
    rw [e1] at b1 f1
    rw [← hg] at f1 ⊢
    have B0 := Lib.hid b1
    have F80 := Lib.hid f1
    have HK0 := Lib.hid (HKW.out.below b1)
    have HL0 := Lib.hid (HLW.out.below b1)
    have HP0 := Lib.hid (HPW.out.below b1)
    clear hw0 e1 b1 f1 hg
    go_wp2_with (go_at_call 8; refine (first6 w0 HK0.out).mono ?_; rintro e wr ⟨rfl, hb1⟩; have B := Lib.hid (B0.out.trans (hb1.mono B0.out.size)); have HK := Lib.hid (HK0.out.below hb1); have HL := Lib.hid (HL0.out.below hb1); have HP := Lib.hid (HP0.out.below hb1); have F8 := Lib.hid (row_below F80.out hb1); clear hb1)
    go_ret
    exact ⟨rfl, B.out⟩
  have t1 : ¬ (n : Int) > 60 := by omega
  by_cases h30 : q > 30
  · have t2 : (q : Int) > 30 := by omega
    go_enter Tryd.func3, Tryd.ntmps3
    go_upto_region 1 with fail
    obtain ⟨b1, f1⟩ : Below w.heap.size w (w.alloc (.cells (leaf.map bV).toArray 24 (0, 0))) ∧ (w.alloc (.cells (leaf.map bV).toArray 24 (0, 0))).heap[w.heap.size]? = some (.cells (leaf.map bV).toArray 24 (0, 0)) := ⟨(Below.refl _ _).alloc (Nat.le_refl _) _, heap_alloc_new _ _⟩
    obtain ⟨g8, hg⟩ : ∃ g, g = w.heap.size := ⟨_, rfl⟩
    generalize hw0 : World.alloc _ _ = w0
    have e1 : w.alloc (.cells (leaf.map bV).toArray 24 (0, 0)) = w0 := hw0
    rw [e1] at b1 f1
    rw [← hg] at f1 ⊢
    have B0 := Lib.hid b1
    have F80 := Lib.hid f1
    have HK0 := Lib.hid (HKW.out.below b1)
    have HL0 := Lib.hid (HLW.out.below b1)
    have HP0 := Lib.hid (HPW.out.below b1)
    clear hw0 e1 b1 f1 hg
    go_wp2_with (go_at_call 8; refine (first6 w0 HK0.out).mono ?_; rintro e wr ⟨rfl, hb1⟩; have B := Lib.hid (B0.out.trans (hb1.mono B0.out.size)); have HK := Lib.hid (HK0.out.below hb1); have HL := Lib.hid (HL0.out.below hb1); have HP := Lib.hid (HP0.out.below hb1); have F8 := Lib.hid (row_below F80.out hb1); clear hb1)
    go_ret
    exact ⟨rfl, B.out⟩
  have t2 : ¬ (q : Int) > 30 := by omega
  obtain ⟨R, hR⟩ : ∃ R, R = rootL prH zM l := ⟨_, rfl⟩
  have HRL : Hid (R.length = 32) := by show _ = _; rw [hR]; exact rootL_len _ l rfl HLW.out.1
  have HR : Hid (rootL prH zM l = R) := hR.symm
  obtain ⟨P, hP⟩ : ∃ P, P = (pathB at_ l).1 := ⟨_, rfl⟩
  obtain ⟨po, hpo⟩ : ∃ po, po = (pathB at_ l).2 := ⟨_, rfl⟩
  obtain ⟨X, hX⟩ : ∃ X, X = (climbB leaf at_ of_ p).1 := ⟨_, rfl⟩
  obtain ⟨xo, hxo⟩ : ∃ xo, xo = (climbB leaf at_ of_ p).2 := ⟨_, rfl⟩
  have HXL : Hid (X.length = 32) := by show _ = _; rw [hX]; exact climbB_len _ _ _ _ HLF.out
  have XS : Hid ((X.map bV).toArray.size = 32) := by show _ = _; rw [List.size_toArray, List.length_map]; exact HXL.out
  have LFS : Hid ((leaf.map bV).toArray.size = 32) := by show _ = _; rw [List.size_toArray, List.length_map]; exact HLF.out
  have HPL : Hid (P.length ≤ 1048576) := by show _ ≤ _; rw [hP]; exact pathB_len at_ l (by have := HN.out; omega)
  have HN60 : Hid (l.length ≤ 1048576) := by show _ ≤ _; have := HN.out; omega
  have HP1 := Lib.hid hP
  have HP2 := Lib.hid hpo
  have HX1 := Lib.hid hX
  have HX2 := Lib.hid hxo
  clear hR hP hpo hX hxo
  go_enter Tryd.func3, Tryd.ntmps3
  go_upto_region 1 with fail
  obtain ⟨b1, f1⟩ : Below w.heap.size w (w.alloc (.cells (leaf.map bV).toArray 24 (0, 0))) ∧ (w.alloc (.cells (leaf.map bV).toArray 24 (0, 0))).heap[w.heap.size]? = some (.cells (leaf.map bV).toArray 24 (0, 0)) := ⟨(Below.refl _ _).alloc (Nat.le_refl _) _, heap_alloc_new _ _⟩
  obtain ⟨g8, hg⟩ : ∃ g, g = w.heap.size := ⟨_, rfl⟩
  generalize hw0 : World.alloc _ _ = w0
  have e1 : w.alloc (.cells (leaf.map bV).toArray 24 (0, 0)) = w0 := hw0
  rw [e1] at b1 f1
  rw [← hg] at f1 ⊢
  have B0 := Lib.hid b1
  have F80 := Lib.hid f1
  have HK0 := Lib.hid (HKW.out.below b1)
  have HL0 := Lib.hid (HLW.out.below b1)
  have HP0 := Lib.hid (HPW.out.below b1)
  clear hw0 e1 b1 f1 hg
  go_wp2_with (go_at_call 8; refine (first6 w0 HK0.out).mono ?_; rintro e wr ⟨rfl, hb1⟩; have B := Lib.hid (B0.out.trans (hb1.mono B0.out.size)); have HK := Lib.hid (HK0.out.below hb1); have HL := Lib.hid (HL0.out.below hb1); have HP := Lib.hid (HP0.out.below hb1); have F8 := Lib.hid (row_below F80.out hb1); clear hb1)
  refine (path_g at_ l P po _ _ HK.out HL.out HN60.out HP1.out HP2.out).mono ?_
  rintro ee w2 ⟨v2, rfl, ha, hb⟩
  have HQ1 := Lib.hid ha
  clear ha
  have B := Lib.hid (B.out.trans (hb.mono B.out.size))
  have HK := Lib.hid (HK.out.below hb)
  have HL := Lib.hid (HL.out.below hb)
  have HP := Lib.hid (HP.out.below hb)
  have F8 := Lib.hid (row_below F8.out hb)
  clear hb
  go_wp2_with fail
  refine (pathR_g at_ l P po _ _ HL.out HN60.out HP1.out HP2.out).mono ?_
  rintro ee w3 ⟨v3, rfl, ha, hb⟩
  have HQ2 := Lib.hid ha
  clear ha
  have B := Lib.hid (B.out.trans (hb.mono B.out.size))
  have HK := Lib.hid (HK.out.below hb)
  have HL := Lib.hid (HL.out.below hb)
  have HP := Lib.hid (HP.out.below hb)
  have HQ1 := Lib.hid (HQ1.out.below hb)
  have F8 := Lib.hid (row_below F8.out hb)
  clear hb
  go_wp2_with ((with_reducible show wpList _ _ _ _ _ _); refine wpList_load_row rfl 24 (.tmp 8) rfl g8 rfl 24 (leaf.map bV).toArray (0, 0) _ F8.out Tryd.underlying24 rfl (by rw [LFS.out] <;> kernel_rfl) ?_; go_frame)
  refine (climb_g leaf X at_ of_ p xo _ _ HK.out HLF.out HP.out HX1.out HX2.out).mono ?_
  rintro ee w4 ⟨rfl, hb⟩
  have B := Lib.hid (B.out.trans (hb.mono B.out.size))
  have HK := Lib.hid (HK.out.below hb)
  have HL := Lib.hid (HL.out.below hb)
  have HP := Lib.hid (HP.out.below hb)
  have HQ1 := Lib.hid (HQ1.out.below hb)
  have HQ2 := Lib.hid (HQ2.out.below hb)
  have F8 := Lib.hid (row_below F8.out hb)
  clear hb
  go_upto_region 9 with ((with_reducible show wpList _ _ _ _ _ _); refine wpList_store_row rfl 24 (.tmp 16) (.tmp 50) rfl w4.heap.size (X.map bV).toArray rfl rfl 24 _ (heap_alloc_new w4 _) (by rw [XS.out]; kernel_rfl) (by rw [XS.out]; rfl) (bV_one _) ?_; go_frame)
  obtain ⟨fb1, ff, hb⟩ := box_filled w4 X (Below.refl w4.heap.size w4)
  obtain ⟨g16, hg⟩ : ∃ g, g = w4.heap.size := ⟨_, rfl⟩
  generalize hq : World.setRow _ _ _ = w5
  have e2 : (w4.alloc (.cells (List.replicate 32 (bV 0)).toArray 24)).setRow w4.heap.size (X.map bV).toArray = w5 := hq
  rw [e2] at ff hb
  rw [← hg] at ff ⊢
  clear fb1 hq e2 hg
  have F16 := Lib.hid ff
  clear ff
  have B := Lib.hid (B.out.trans (hb.mono B.out.size))
  have HK := Lib.hid (HK.out.below hb)
  have HL := Lib.hid (HL.out.below hb)
  have HP := Lib.hid (HP.out.below hb)
  have HQ1 := Lib.hid (HQ1.out.below hb)
  have HQ2 := Lib.hid (HQ2.out.below hb)
  have F8 := Lib.hid (row_below F8.out hb)
  clear hb
  go_wp2_with ((with_reducible show wpList _ _ _ _ _ _); refine wpList_load_row rfl 24 (.tmp 8) rfl g8 rfl 24 (leaf.map bV).toArray (0, 0) _ F8.out Tryd.underlying24 rfl (by rw [LFS.out] <;> kernel_rfl) ?_; go_frame)
  refine (climbR_g leaf X at_ of_ p xo _ _ HLF.out HP.out HX1.out HX2.out).mono ?_
  rintro ee w6 ⟨rfl, hb⟩
  have B := Lib.hid (B.out.trans (hb.mono B.out.size))
  have HK := Lib.hid (HK.out.below hb)
  have HL := Lib.hid (HL.out.below hb)
  have HQ1 := Lib.hid (HQ1.out.below hb)
  have HQ2 := Lib.hid (HQ2.out.below hb)
  have F16 := Lib.hid (row_below F16.out hb)
  clear hb
  go_upto_region 10 with ((with_reducible show wpList _ _ _ _ _ _); refine wpList_store_row rfl 24 (.tmp 18) (.tmp 58) rfl w6.heap.size (X.map bV).toArray rfl rfl 24 _ (heap_alloc_new w6 _) (by rw [XS.out]; kernel_rfl) (by rw [XS.out]; rfl) (bV_one _) ?_; go_frame)
  obtain ⟨fb1, ff, hb⟩ := box_filled w6 X (Below.refl w6.heap.size w6)
  obtain ⟨g18, hg⟩ : ∃ g, g = w6.heap.size := ⟨_, rfl⟩
  generalize hq : World.setRow _ _ _ = w7
  have e2 : (w6.alloc (.cells (List.replicate 32 (bV 0)).toArray 24)).setRow w6.heap.size (X.map bV).toArray = w7 := hq
  rw [e2] at ff hb
  rw [← hg] at ff ⊢
  clear fb1 hq e2 hg
  have F18 := Lib.hid ff
  clear ff
  have B := Lib.hid (B.out.trans (hb.mono B.out.size))
  have HK := Lib.hid (HK.out.below hb)
  have HL := Lib.hid (HL.out.below hb)
  have HQ1 := Lib.hid (HQ1.out.below hb)
  have HQ2 := Lib.hid (HQ2.out.below hb)
  have F16 := Lib.hid (row_below F16.out hb)
  clear hb
  have SMH : Hid (∀ w', Below w7.heap.size w7 w' → Calls Tryd.prog 16 #[v2, v3] w' fun e w'' => e = .returned (.bool true) ∧ Below w'.heap.size w' w'') := fun w' hw' => samehs_v P P v2 v3 w' (HQ1.out.below hw') (HQ2.out.below hw') HPL.out true (by simp)
  go_wp2_with fail
  refine (root_v l R _ _ HK.out HL.out HN60.out HR.out).mono ?_
  rintro ee w8 ⟨rfl, hb8⟩
  have HL8 := Lib.hid (HL.out.below hb8)
  have C8 := Lib.hid hb8
  clear hb8
  go_wp2_with fail
  refine (rootR_v l R _ _ HL8.out HN60.out HR.out).mono ?_
  rintro ee w9 ⟨rfl, hb9⟩
  have C9 := Lib.hid (C8.out.trans (hb9.mono C8.out.size))
  clear hb9
  go_wp2_with fail
  refine (same_v R R true HRL.out HRL.out (by simp) _).mono ?_
  rintro ee w10 ⟨rfl, hb10⟩
  have C10 := Lib.hid (C9.out.trans (hb10.mono C9.out.size))
  clear hb10
  go_wp2_with fail
  refine (SMH.out _ C10.out).mono ?_
  rintro ee w11 ⟨rfl, hb11⟩
  have C11 := Lib.hid (C10.out.trans (hb11.mono C10.out.size))
  have F16 := Lib.hid (row_below F16.out C11.out)
  have F18 := Lib.hid (row_below F18.out C11.out)
  clear hb11 SMH
  go_wp2_with (first | ((with_reducible show wpList _ _ _ _ _ _); refine wpList_load_rowG 24 (.tmp 16) rfl g16 rfl 24 (X.map bV).toArray (0, 0) _ F16.out Tryd.underlying24 rfl (by rw [XS.out] <;> kernel_rfl) rfl ?_; go_frame) | ((with_reducible show wpList _ _ _ _ _ _); refine wpList_load_rowG 24 (.tmp 18) rfl g18 rfl 24 (X.map bV).toArray (0, 0) _ F18.out Tryd.underlying24 rfl (by rw [XS.out] <;> kernel_rfl) rfl ?_; go_frame))
  refine (same_v X X true HXL.out HXL.out (by simp) _).mono ?_
  rintro ee w12 ⟨rfl, hb12⟩
  have B12 := Lib.hid (B.out.trans ((C11.out.trans (hb12.mono C11.out.size)).mono B.out.size))
  clear hb12
  go_wp2_with fail
  go_ret
  exact ⟨rfl, B12.out⟩
end Go.Proofs.YtaeebcedobkopaaDoor.Sha
