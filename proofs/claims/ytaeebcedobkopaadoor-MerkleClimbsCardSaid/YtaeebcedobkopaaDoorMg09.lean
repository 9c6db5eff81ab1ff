/-
  The statement on ways answers true. Nothing that was there turns. Conditions: digests of 32 bytes, the table is there.
-/
import Derived.IntWalk
import Derived.Deep.DeepCutAuto
import Derived.Test.YtaeebcedobkopaaDoorMg07
import Derived.Test.YtaeebcedobkopaaDoorMg08
import Derived.Test.YtaeebcedobkopaaDoorMg01
namespace Go.Proofs.YtaeebcedobkopaaDoor.Sha
open Go Go.RowKit
set_option maxHeartbeats 8000000 in
set_option maxRecDepth 100000 in
theorem merkleclimbs_main (l : List (List UInt8)) (v : Value) (at_ : Int) (w : World) (hl : HsAt w v l) (hm : l.length ≤ 9223372036854775807) (hi64 : -9223372036854775808 ≤ at_ ∧ at_ ≤ 9223372036854775807) (hk : KTab w) :
    Calls Tryd.prog 4 #[v, .int .i64 at_] w fun e w' => e = .returned (.bool true) ∧ Below w.heap.size w w' := by
  obtain ⟨i0, hi, hz0, hz1, hz2⟩ := info_parts info_hash
  obtain ⟨sp, cap, rfl⟩ := hl.shape
  obtain ⟨n, hn⟩ : ∃ n, n = l.length := ⟨_, rfl⟩
  rw [← hn] at hl hm ⊢
  have HN := Lib.hid hn
  have HL0 := Lib.hid hl
  have HK := Lib.hid hk
  clear hl hn hk
  have n0 : 0 ≤ (n : Int) := by omega
  by_cases h0 : n = 0
  · have t0 : ((n : Int) == 0) = true := by rw [beq_iff_eq]; omega
    clear h0
    go_enter Tryd.func4, Tryd.ntmps4
    go_wp2_with (go_at_call 8; refine (first6 w HK.out).mono ?_; rintro e wr ⟨rfl, hb1⟩; have B := Lib.hid hb1; have HKR := Lib.hid (HK.out.below hb1); have HL := Lib.hid (HL0.out.below hb1); clear hb1)
    go_ret
    exact ⟨rfl, B.out⟩
  have t0 : ((n : Int) == 0) = false := by rw [beq_eq_false_iff_ne]; omega
  by_cases h60 : n > 60
  · have t1 : (n : Int) > 60 := by omega
    go_enter Tryd.func4, Tryd.ntmps4
    go_wp2_with (go_at_call 8; refine (first6 w HK.out).mono ?_; rintro e wr ⟨rfl, hb1⟩; have B := Lib.hid hb1; have HKR := Lib.hid (HK.out.below hb1); have HL := Lib.hid (HL0.out.below hb1); clear hb1)
    go_ret
    exact ⟨rfl, B.out⟩
  have t1 : ¬ (n : Int) > 60 := by omega
  obtain ⟨R, hR⟩ : ∃ R, R = rootL prH zM l := ⟨_, rfl⟩
  have HRL : Hid (R.length = 32) := by show _ = _; rw [hR]; exact rootL_len _ l rfl HL0.out.1
  have HRS : Hid ((R.map bV).toArray.size = 32) := by show _ = _; rw [List.size_toArray, List.length_map]; exact HRL.out
  have ZMS : Hid ((zM.map bV).toArray.size = 32) := rfl
  have LZ : Hid ((zM.map bV).length = 32) := rfl
  have LZL : Hid (zM.length = 32) := rfl
  have HR : Hid (rootL prH zM l = R) := hR.symm
  obtain ⟨k, hk, hkn⟩ := numb_nat at_ n (by omega)
  have HKN := Lib.hid hk
  obtain ⟨P, hP⟩ : ∃ P, P = pathL prH zM k l := ⟨_, rfl⟩
  have HPP : Hid (pathL prH zM k l = P) := hP.symm
  have hpq : P.length = rowsN n := by rw [hP]; exact pathL_length prH zM n l k HN.out.symm
  have hq20 : rowsN n ≤ 20 := rowsN_le n 20 (by omega)
  obtain ⟨x, hx⟩ : ∃ x, x = l.getD k [] := ⟨_, rfl⟩
  have HCL : Hid (climbL prH x k P = R) := by
    show _ = _
    have hnn := HN.out
    rw [hx, hP, hR, getD_any (by omega)]
    exact climb_path prH zM n l k HN.out.symm hkn
  have lx : x.length = 32 := by rw [hx]; exact HL0.out.1.get (by have := HN.out; omega)
  have LXL := Lib.hid lx
  have LX : Hid ((x.map bV).length = 32) := by show _ = _; rw [List.length_map, lx]
  have HN60 : Hid (l.length ≤ 1048576) := by show _ ≤ _; have := HN.out; omega
  have HP20 : Hid (P.length ≤ 1048576) := by show _ ≤ _; omega
  have HPQ := Lib.hid hpq
  have NO1 : Hid (¬ climbOk (k : Int) (n : Int) (P ++ [zM]).length) := by
    show ¬ _
    rintro ⟨_, _, _, h⟩
    rw [List.length_append, List.length_singleton, Int.toNat_natCast] at h
    omega
  have NO2 : Hid (¬ climbOk (n : Int) (n : Int) P.length) := by
    show ¬ _
    rintro ⟨_, h, _, _⟩
    omega
  have NO3 : Hid (0 < P.length → ¬ climbOk (k : Int) (n : Int) (P.drop 1).length) := by
    show _ → ¬ _
    rintro h0 ⟨_, _, _, h⟩
    rw [List.length_drop, Int.toNat_natCast] at h
    omega
  obtain ⟨b, o, rfl, hbw, hg⟩ := HL0.out.get (by omega)
  have hX := hg k hkn
  rw [← hx] at hX
  have HX0 := Lib.hid hX
  have HKL := Lib.hid hkn
  have HKL2 : Hid (k < l.length) := by show _ < _; rw [← HN.out]; exact hkn
  have k0 : 0 ≤ (k : Int) := by omega
  have k1 : (k : Int) < (n : Int) := by omega
  have HI := Lib.hid hi64
  clear hg hX hx lx hR hP hk hpq hi64
  go_enter Tryd.func4, Tryd.ntmps4
  go_wp2_with (first | (go_at_call 8; refine (first6 w HK.out).mono ?_; rintro e wr ⟨rfl, hb1⟩; have B := Lib.hid hb1; have HKR := Lib.hid (HK.out.below hb1); have HL := Lib.hid (HL0.out.below hb1); clear hb1) | (go_at_call 17; refine (numb_any at_ n (by omega) (by omega) HI.out _).mono ?_; rintro e w' ⟨rfl, rfl⟩; rw [HKN.out]))
  refine (path_v k l P _ _ HKR.out HL.out HN60.out HKL2.out HPP.out).mono ?_
  rintro e w2 ⟨vp, rfl, hp, hb⟩
  obtain ⟨sp2, cap2, rfl⟩ := hp.shape
  obtain ⟨q, hq⟩ : ∃ q, q = P.length := ⟨_, rfl⟩
  rw [← hq] at hp ⊢
  have HQ := Lib.hid hq
  have HP := Lib.hid hp
  have HX := Lib.hid (range_below HX0.out (B.out.trans (hb.mono B.out.size)))
  have B := Lib.hid (B.out.trans (hb.mono B.out.size))
  have HKR := Lib.hid (HKR.out.below hb)
  have HL := Lib.hid (HL.out.below hb)
  clear hb hp hq HX0
  go_wp2_with ((with_reducible show wpList _ _ _ _ _ _); refine wpList_load_mid rfl 24 (.tmp 42) rfl b (o + k * 32) rfl (x.map bV) _ HX.out Tryd.underlying24 rfl (by rw [LX.out]; kernel_rfl) ?_; go_frame)
  refine (climb_v x k n P R _ _ HKR.out LXL.out HP.out HKL.out (by omega) HPQ.out HCL.out).mono ?_
  rintro e w3 ⟨rfl, hb⟩
  have B := Lib.hid (B.out.trans (hb.mono B.out.size))
  have HKR := Lib.hid (HKR.out.below hb)
  have HL := Lib.hid (HL.out.below hb)
  have HP := Lib.hid (HP.out.below hb)
  have HX := Lib.hid (range_below HX.out hb)
  clear hb
  go_upto_region 11 with ((with_reducible show wpList _ _ _ _ _ _); refine wpList_store_row rfl 24 (.tmp 8) (.tmp 49) rfl w3.heap.size (R.map bV).toArray rfl rfl 24 _ (heap_alloc_new w3 _) (by rw [HRS.out]; kernel_rfl) (by rw [HRS.out]; rfl) (bV_one _) ?_; go_frame)
  obtain ⟨fb1, ff, fb⟩ := box_filled w3 R (Below.refl w3.heap.size w3)
  obtain ⟨g8, hg⟩ : ∃ g, g = w3.heap.size := ⟨_, rfl⟩
  generalize hq : World.setRow _ _ _ = wr
  have e2 : (w3.alloc (.cells (List.replicate 32 (bV 0)).toArray 24)).setRow w3.heap.size (R.map bV).toArray = wr := hq
  rw [e2] at ff fb
  rw [← hg] at ff ⊢
  clear fb1 hq e2 hg
  have hb := fb
  have F8 := Lib.hid ff
  have B := Lib.hid (B.out.trans (hb.mono B.out.size))
  have HKR := Lib.hid (HKR.out.below hb)
  have HL := Lib.hid (HL.out.below hb)
  have HP := Lib.hid (HP.out.below hb)
  have HX := Lib.hid (range_below HX.out hb)
  clear hb fb ff
  go_cut [10, 11] (fun v10 v11 wx => v11 = .bool false ∧ Below wr.heap.size wr wx)
  case first =>
      refine wp_region_held_drew (S := (fun w' => Below wr.heap.size wr w')) (by kernel_rfl) (Below.drew (Below.refl _ _)) (fun hHeld => ?_)
      generalize hwd : wr.drew = wd at hHeld ⊢
      clear hwd
      refine held_take (i := 0) (v := (.slice (some ⟨b, o, none⟩) n cap)) rfl (by kernel_rfl) (by kernel_rfl) (by kernel_rfl) (fun _ _ _ h => h) (Or.inl ⟨by rfl, fun w' _ => by kernel_rfl⟩) hHeld ?_
      go_frame
      refine held_take (i := 1) (v := (.int .i64 (k : Int))) rfl (by kernel_rfl) (by kernel_rfl) (by kernel_rfl) (fun _ _ _ h => h) (Or.inl ⟨by rfl, fun w' _ => by kernel_rfl⟩) hHeld ?_
      go_frame
      refine held_take (i := 2) (v := (.pointer (some ⟨b, o + k * 32, none⟩))) rfl (by kernel_rfl) (by kernel_rfl) (by kernel_rfl) (fun _ _ _ h => h) (Or.inl ⟨by rfl, fun w' _ => by go_simp⟩) hHeld ?_
      go_frame
      refine held_take (i := 3) (v := (.agg (x.map bV).toArray)) rfl (by kernel_rfl) (by kernel_rfl) (by kernel_rfl) (fun _ _ _ h => h) (Sha.yieldsIf_load_mid (by rfl) 24 (.tmp 54) rfl b (o + k * 32) rfl (x.map bV) _ (fun w' hw' => range_below HX.out hw') Tryd.underlying24 rfl (by rw [LX.out]; kernel_rfl)) hHeld ?_
      go_frame
      refine held_take (i := 4) (v := (.int .i64 (k : Int))) rfl (by kernel_rfl) (by kernel_rfl) (by kernel_rfl) (fun _ _ _ h => h) (Or.inl ⟨by rfl, fun w' _ => by kernel_rfl⟩) hHeld ?_
      go_frame
      refine held_take (i := 5) (v := (.slice (some ⟨b, o, none⟩) n cap)) rfl (by kernel_rfl) (by kernel_rfl) (by kernel_rfl) (fun _ _ _ h => h) (Or.inl ⟨by rfl, fun w' _ => by kernel_rfl⟩) hHeld ?_
      go_frame
      refine held_take (i := 6) (v := (.int .i64 (n : Int))) rfl (by kernel_rfl) (by kernel_rfl) (by kernel_rfl) (fun _ _ _ h => h) (Or.inl ⟨by rfl, fun w' _ => by kernel_rfl⟩) hHeld ?_
      go_frame
      refine held_take (i := 7) (v := (.slice sp2 q cap2)) rfl (by kernel_rfl) (by kernel_rfl) (by kernel_rfl) (fun _ _ _ h => h) (Or.inl ⟨by rfl, fun w' _ => by kernel_rfl⟩) hHeld ?_
      go_frame
      refine held_take (i := 9) (v := (.agg (zM.map bV).toArray)) rfl (by kernel_rfl) (by kernel_rfl) (by kernel_rfl) (fun _ _ _ h => h) (Or.inl ⟨by rfl, fun w' _ => by kernel_rfl⟩) hHeld ?_
      go_frame
      refine wpAnyH_ready (rs := [8, 10, 16]) (by kernel_rfl) (by simp) (held_cons rfl (fun K hK => ?_) (held_cons rfl (fun K hK => ?_) (held_cons rfl (fun K hK => ?_) AllReadyH.nil)))
      · skip
        go_simp
        refine (hashes_v P _ _ (HP.out.below hHeld) HP20.out).mono ?_
        rintro e v1 ⟨vo, rfl, ho, bb⟩
        have HO := Lib.hid (ho.base hHeld.size)
        clear ho
        have hv1 := hHeld.trans (bb.mono hHeld.size)
        clear bb hHeld
        go_wp2_with fail
        refine hK.out _ _ hv1 (fun hHeld => ?_)
        clear hK K hv1
        refine wpAnyH_ready (rs := [10, 16]) (by kernel_rfl) (by simp) (held_cons rfl (fun K hK => ?_) (held_cons rfl (fun K hK => ?_) AllReadyH.nil))
        · skip
          rw [if_pos (by rfl)]
          refine wp_slice_one 22 24 (.tmp 61) rfl (zM.map bV) rfl Tryd.underlying22 i0 _ hi hz0 (by rw [hz1, LZ.out]) (by rw [LZ.out]; omega) (by rw [LZ.out]; omega) ?_
          have nf := heap_alloc_new v1 (.cells (zM.map bV).toArray 24 (0, 0))
          have bb := (Below.refl v1.heap.size v1).alloc (Nat.le_refl _) (.cells (zM.map bV).toArray 24 (0, 0))
          obtain ⟨gv2, hgv2⟩ : ∃ g, g = v1.heap.size := ⟨_, rfl⟩
          generalize hqv2 : World.alloc _ _ = v2
          have ev2 : v1.alloc (.cells (zM.map bV).toArray 24 (0, 0)) = v2 := hqv2
          rw [ev2] at nf bb
          rw [← hgv2] at nf ⊢
          have NF := Lib.hid nf
          have HO := Lib.hid (HO.out.keep bb)
          have hv2 := hHeld.trans (bb.mono hHeld.size)
          clear nf bb hqv2 ev2 hgv2 hHeld
          go_frame
          refine hK.out _ _ hv2 (fun hHeld => ?_)
          clear hK K hv2
          refine wpAnyH_ready (rs := [11, 16]) (by kernel_rfl) (by simp) (held_cons rfl (fun K hK => ?_) (held_cons rfl (fun K hK => ?_) AllReadyH.nil))
          · skip
            rw [if_pos (by rfl)]
            refine wp_append_row v2 (.tmp 60) (.tmp 62) 22 rfl wr.heap.size 24 i0 (.agg (List.replicate 32 (bV 0)).toArray) 32 32 Tryd.underlying22 hi hz0 hz1 hz2 (by kernel_rfl) (by decide) vo _ (hsL P) rfl HO.out.1 ⟨gv2, 0, none⟩ 1 1 (zM.map bV) rfl (by rw [LZ.out]) (hs_one NF.out) (bV_one' _) (by have := HP20.out; unfold maxLen; omega) (by have := HP20.out; omega) hHeld.size ?_
            intro xv3 v3 q1 q2 _
            have HO2 := Lib.hid (HsOwn.push (base := wr.heap.size) HO.out.2 LZL.out q1)
            have hv3 := own_grown hHeld (Nat.le_refl _) hHeld.size HO.out.1 q2
            clear q1 q2 hHeld
            go_frame
            refine hK.out _ _ hv3 (fun hHeld => ?_)
            clear hK K hv3
            refine wpAnyH_ready (rs := [12, 16]) (by kernel_rfl) (by simp) (held_cons rfl (fun K hK => ?_) (held_cons rfl (fun K hK => ?_) AllReadyH.nil))
            · skip
              go_simp
              refine (climb_v_no x k n (P ++ [zM]) _ _ HO2.out.at NO1.out).mono ?_
              rintro e v4 ⟨rfl, bb⟩
              have HO2 := Lib.hid (HO2.out.keep bb)
              have hv4 := hHeld.trans (bb.mono hHeld.size)
              clear bb hHeld
              go_wp2_with fail
              refine hK.out _ _ hv4 (fun hHeld => ?_)
              clear hK K hv4
              refine held_take (i := 13) (v := (.tuple #[.agg (zM.map bV).toArray, .bool false])) rfl (by kernel_rfl) (by kernel_rfl) (by kernel_rfl) (fun _ _ _ h => h) (Or.inl ⟨by rfl, fun w' _ => by kernel_rfl⟩) hHeld ?_
              go_frame
              refine held_take (i := 14) (v := (.agg (zM.map bV).toArray)) rfl (by kernel_rfl) (by kernel_rfl) (by kernel_rfl) (fun _ _ _ h => h) (Or.inl ⟨by rfl, fun w' _ => by kernel_rfl⟩) hHeld ?_
              go_frame
              refine held_take (i := 15) (v := (.bool false)) rfl (by kernel_rfl) (by kernel_rfl) (by kernel_rfl) (fun _ _ _ h => h) (Or.inl ⟨by rfl, fun w' _ => by kernel_rfl⟩) hHeld ?_
              go_frame
              refine wpAnyH_ready (rs := [16]) (by kernel_rfl) (by simp) (held_cons rfl (fun K hK => ?_) AllReadyH.nil)
              go_simp
              have nf := heap_alloc_new v4 (.cells (List.replicate 32 (bV 0)).toArray 24 (0, 0))
              have bb := (Below.refl v4.heap.size v4).alloc (Nat.le_refl _) (.cells (List.replicate 32 (bV 0)).toArray 24 (0, 0))
              obtain ⟨gv5, hgv5⟩ : ∃ g, g = v4.heap.size := ⟨_, rfl⟩
              have GFB : Hid (wr.heap.size ≤ gv5) := by show _ ≤ _; rw [hgv5]; exact hHeld.size
              generalize hqv5 : World.alloc _ _ = v5
              have ev5 : v4.alloc (.cells (List.replicate 32 (bV 0)).toArray 24 (0, 0)) = v5 := hqv5
              rw [ev5] at nf bb
              rw [← hgv5] at nf ⊢
              have FB := Lib.hid nf
              have HO2 := Lib.hid (HO2.out.keep bb)
              have hv5 := hHeld.trans (bb.mono hHeld.size)
              clear nf bb hqv5 ev5 hgv5 hHeld
              refine hK.out _ _ hv5 (fun hHeld => ?_)
              clear hK K hv5
              refine wpAnyH_ready (rs := [17]) (by kernel_rfl) (by simp) (held_cons rfl (fun K hK => ?_) AllReadyH.nil)
              rw [if_pos (by rfl)]
              refine wp_store_whole 24 (.tmp 10) (.tmp 65) rfl gv5 (zM.map bV) (zM.map bV) 24 rfl rfl (rfl) FB.out (by kernel_rfl) (bV_one _) ?_
              intro v6 q1 q2
              have FB := Lib.hid q1
              have hv6 := hHeld.grown q2 hHeld.size (fun k hk => by cases hk; exact GFB.out)
              clear q1 q2 hHeld
              go_frame
              refine hK.out _ _ hv6 (fun hHeld => ?_)
              clear hK K hv6
              refine held_take (i := 18) (v := (.bool false)) rfl (by kernel_rfl) (by kernel_rfl) (by kernel_rfl) (fun _ _ _ h => h) (Or.inl ⟨by rfl, fun w' _ => by kernel_rfl⟩) hHeld ?_
              go_frame
              refine wpAnyH_done (by kernel_rfl) ?_ _
              have B9 := Lib.hid hHeld
              clear hHeld
              go_wp2_with fail
              go_meet
              case rel => exact ⟨rfl, B9.out⟩
            · skip
              go_simp
              have nf := heap_alloc_new v3 (.cells (List.replicate 32 (bV 0)).toArray 24 (0, 0))
              have bb := (Below.refl v3.heap.size v3).alloc (Nat.le_refl _) (.cells (List.replicate 32 (bV 0)).toArray 24 (0, 0))
              obtain ⟨gv7, hgv7⟩ : ∃ g, g = v3.heap.size := ⟨_, rfl⟩
              have GFB : Hid (wr.heap.size ≤ gv7) := by show _ ≤ _; rw [hgv7]; exact hHeld.size
              generalize hqv7 : World.alloc _ _ = v7
              have ev7 : v3.alloc (.cells (List.replicate 32 (bV 0)).toArray 24 (0, 0)) = v7 := hqv7
              rw [ev7] at nf bb
              rw [← hgv7] at nf ⊢
              have FB := Lib.hid nf
              have HO2 := Lib.hid (HO2.out.keep bb)
              have hv7 := hHeld.trans (bb.mono hHeld.size)
              clear nf bb hqv7 ev7 hgv7 hHeld
              refine hK.out _ _ hv7 (fun hHeld => ?_)
              clear hK K hv7
              refine wpAnyH_ready (rs := [12]) (by kernel_rfl) (by simp) (held_cons rfl (fun K hK => ?_) AllReadyH.nil)
              go_simp
              refine (climb_v_no x k n (P ++ [zM]) _ _ HO2.out.at NO1.out).mono ?_
              rintro e v8 ⟨rfl, bb⟩
              have HO2 := Lib.hid (HO2.out.keep bb)
              have FB := Lib.hid (row_below FB.out bb)
              have hv8 := hHeld.trans (bb.mono hHeld.size)
              clear bb hHeld
              go_wp2_with fail
              refine hK.out _ _ hv8 (fun hHeld => ?_)
              clear hK K hv8
              refine held_take (i := 13) (v := (.tuple #[.agg (zM.map bV).toArray, .bool false])) rfl (by kernel_rfl) (by kernel_rfl) (by kernel_rfl) (fun _ _ _ h => h) (Or.inl ⟨by rfl, fun w' _ => by kernel_rfl⟩) hHeld ?_
              go_frame
              refine held_take (i := 14) (v := (.agg (zM.map bV).toArray)) rfl (by kernel_rfl) (by kernel_rfl) (by kernel_rfl) (fun _ _ _ h => h) (Or.inl ⟨by rfl, fun w' _ => by kernel_rfl⟩) hHeld ?_
              go_frame
              refine held_take (i := 15) (v := (.bool false)) rfl (by kernel_rfl) (by kernel_rfl) (by kernel_rfl) (fun _ _ _ h => h) (Or.inl ⟨by rfl, fun w' _ => by kernel_rfl⟩) hHeld ?_
              go_frame
              refine wpAnyH_ready (rs := [17]) (by kernel_rfl) (by simp) (held_cons rfl (fun K hK => ?_) AllReadyH.nil)
              rw [if_pos (by rfl)]
              refine wp_store_whole 24 (.tmp 10) (.tmp 65) rfl gv7 (zM.map bV) (zM.map bV) 24 rfl rfl (rfl) FB.out (by kernel_rfl) (bV_one _) ?_
              intro v9 q1 q2
              have FB := Lib.hid q1
              have hv9 := hHeld.grown q2 hHeld.size (fun k hk => by cases hk; exact GFB.out)
              clear q1 q2 hHeld
              go_frame
              refine hK.out _ _ hv9 (fun hHeld => ?_)
              clear hK K hv9
              refine held_take (i := 18) (v := (.bool false)) rfl (by kernel_rfl) (by kernel_rfl) (by kernel_rfl) (fun _ _ _ h => h) (Or.inl ⟨by rfl, fun w' _ => by kernel_rfl⟩) hHeld ?_
              go_frame
              refine wpAnyH_done (by kernel_rfl) ?_ _
              have B9 := Lib.hid hHeld
              clear hHeld
              go_wp2_with fail
              go_meet
              case rel => exact ⟨rfl, B9.out⟩
          · skip
            go_simp
            have nf := heap_alloc_new v2 (.cells (List.replicate 32 (bV 0)).toArray 24 (0, 0))
            have bb := (Below.refl v2.heap.size v2).alloc (Nat.le_refl _) (.cells (List.replicate 32 (bV 0)).toArray 24 (0, 0))
            obtain ⟨gv10, hgv10⟩ : ∃ g, g = v2.heap.size := ⟨_, rfl⟩
            have GFB : Hid (wr.heap.size ≤ gv10) := by show _ ≤ _; rw [hgv10]; exact hHeld.size
            have OFB : Hid ((vo).ownBlock ≠ some gv10) := by show _ ≠ _; intro h; have := HO.out.lt _ h; omega
            generalize hqv10 : World.alloc _ _ = v10
            have ev10 : v2.alloc (.cells (List.replicate 32 (bV 0)).toArray 24 (0, 0)) = v10 := hqv10
            rw [ev10] at nf bb
            rw [← hgv10] at nf ⊢
            have FB := Lib.hid nf
            have HO := Lib.hid (HO.out.keep bb)
            have NF := Lib.hid (row_below NF.out bb)
            have hv10 := hHeld.trans (bb.mono hHeld.size)
            clear nf bb hqv10 ev10 hgv10 hHeld
            refine hK.out _ _ hv10 (fun hHeld => ?_)
            clear hK K hv10
            refine wpAnyH_ready (rs := [11]) (by kernel_rfl) (by simp) (held_cons rfl (fun K hK => ?_) AllReadyH.nil)
            rw [if_pos (by rfl)]
            refine wp_append_row v10 (.tmp 60) (.tmp 62) 22 rfl wr.heap.size 24 i0 (.agg (List.replicate 32 (bV 0)).toArray) 32 32 Tryd.underlying22 hi hz0 hz1 hz2 (by kernel_rfl) (by decide) vo _ (hsL P) rfl HO.out.1 ⟨gv2, 0, none⟩ 1 1 (zM.map bV) rfl (by rw [LZ.out]) (hs_one NF.out) (bV_one' _) (by have := HP20.out; unfold maxLen; omega) (by have := HP20.out; omega) hHeld.size ?_
            intro xv11 v11 q1 q2 _
            have HO2 := Lib.hid (HsOwn.push (base := wr.heap.size) HO.out.2 LZL.out q1)
            have FB := Lib.hid (row_far FB.out q2 OFB.out)
            have hv11 := own_grown hHeld (Nat.le_refl _) hHeld.size HO.out.1 q2
            clear q1 q2 hHeld
            go_frame
            refine hK.out _ _ hv11 (fun hHeld => ?_)
            clear hK K hv11
            refine wpAnyH_ready (rs := [12]) (by kernel_rfl) (by simp) (held_cons rfl (fun K hK => ?_) AllReadyH.nil)
            go_simp
            refine (climb_v_no x k n (P ++ [zM]) _ _ HO2.out.at NO1.out).mono ?_
            rintro e v12 ⟨rfl, bb⟩
            have HO2 := Lib.hid (HO2.out.keep bb)
            have FB := Lib.hid (row_below FB.out bb)
            have hv12 := hHeld.trans (bb.mono hHeld.size)
            clear bb hHeld
            go_wp2_with fail
            refine hK.out _ _ hv12 (fun hHeld => ?_)
            clear hK K hv12
            refine held_take (i := 13) (v := (.tuple #[.agg (zM.map bV).toArray, .bool false])) rfl (by kernel_rfl) (by kernel_rfl) (by kernel_rfl) (fun _ _ _ h => h) (Or.inl ⟨by rfl, fun w' _ => by kernel_rfl⟩) hHeld ?_
            go_frame
            refine held_take (i := 14) (v := (.agg (zM.map bV).toArray)) rfl (by kernel_rfl) (by kernel_rfl) (by kernel_rfl) (fun _ _ _ h => h) (Or.inl ⟨by rfl, fun w' _ => by kernel_rfl⟩) hHeld ?_
            go_frame
            refine held_take (i := 15) (v := (.bool false)) rfl (by kernel_rfl) (by kernel_rfl) (by kernel_rfl) (fun _ _ _ h => h) (Or.inl ⟨by rfl, fun w' _ => by kernel_rfl⟩) hHeld ?_
            go_frame
            refine wpAnyH_ready (rs := [17]) (by kernel_rfl) (by simp) (held_cons rfl (fun K hK => ?_) AllReadyH.nil)
            rw [if_pos (by rfl)]
            refine wp_store_whole 24 (.tmp 10) (.tmp 65) rfl gv10 (zM.map bV) (zM.map bV) 24 rfl rfl (rfl) FB.out (by kernel_rfl) (bV_one _) ?_
            intro v13 q1 q2
            have FB := Lib.hid q1
            have hv13 := hHeld.grown q2 hHeld.size (fun k hk => by cases hk; exact GFB.out)
            clear q1 q2 hHeld
            go_frame
            refine hK.out _ _ hv13 (fun hHeld => ?_)
            clear hK K hv13
            refine held_take (i := 18) (v := (.bool false)) rfl (by kernel_rfl) (by kernel_rfl) (by kernel_rfl) (fun _ _ _ h => h) (Or.inl ⟨by rfl, fun w' _ => by kernel_rfl⟩) hHeld ?_
            go_frame
            refine wpAnyH_done (by kernel_rfl) ?_ _
            have B9 := Lib.hid hHeld
            clear hHeld
            go_wp2_with fail
            go_meet
            case rel => exact ⟨rfl, B9.out⟩
        · skip
          go_simp
          have nf := heap_alloc_new v1 (.cells (List.replicate 32 (bV 0)).toArray 24 (0, 0))
          have bb := (Below.refl v1.heap.size v1).alloc (Nat.le_refl _) (.cells (List.replicate 32 (bV 0)).toArray 24 (0, 0))
          obtain ⟨gv14, hgv14⟩ : ∃ g, g = v1.heap.size := ⟨_, rfl⟩
          have GFB : Hid (wr.heap.size ≤ gv14) := by show _ ≤ _; rw [hgv14]; exact hHeld.size
          have OFB : Hid ((vo).ownBlock ≠ some gv14) := by show _ ≠ _; intro h; have := HO.out.lt _ h; omega
          generalize hqv14 : World.alloc _ _ = v14
          have ev14 : v1.alloc (.cells (List.replicate 32 (bV 0)).toArray 24 (0, 0)) = v14 := hqv14
          rw [ev14] at nf bb
          rw [← hgv14] at nf ⊢
          have FB := Lib.hid nf
          have HO := Lib.hid (HO.out.keep bb)
          have hv14 := hHeld.trans (bb.mono hHeld.size)
          clear nf bb hqv14 ev14 hgv14 hHeld
          refine hK.out _ _ hv14 (fun hHeld => ?_)
          clear hK K hv14
          refine wpAnyH_ready (rs := [10]) (by kernel_rfl) (by simp) (held_cons rfl (fun K hK => ?_) AllReadyH.nil)
          rw [if_pos (by rfl)]
          refine wp_slice_one 22 24 (.tmp 61) rfl (zM.map bV) rfl Tryd.underlying22 i0 _ hi hz0 (by rw [hz1, LZ.out]) (by rw [LZ.out]; omega) (by rw [LZ.out]; omega) ?_
          have nf := heap_alloc_new v14 (.cells (zM.map bV).toArray 24 (0, 0))
          have bb := (Below.refl v14.heap.size v14).alloc (Nat.le_refl _) (.cells (zM.map bV).toArray 24 (0, 0))
          obtain ⟨gv15, hgv15⟩ : ∃ g, g = v14.heap.size := ⟨_, rfl⟩
          generalize hqv15 : World.alloc _ _ = v15
          have ev15 : v14.alloc (.cells (zM.map bV).toArray 24 (0, 0)) = v15 := hqv15
          rw [ev15] at nf bb
          rw [← hgv15] at nf ⊢
          have NF := Lib.hid nf
          have HO := Lib.hid (HO.out.keep bb)
          have FB := Lib.hid (row_below FB.out bb)
          have hv15 := hHeld.trans (bb.mono hHeld.size)
          clear nf bb hqv15 ev15 hgv15 hHeld
          go_frame
          refine hK.out _ _ hv15 (fun hHeld => ?_)
          clear hK K hv15
          refine wpAnyH_ready (rs := [11]) (by kernel_rfl) (by simp) (held_cons rfl (fun K hK => ?_) AllReadyH.nil)
          rw [if_pos (by rfl)]
          refine wp_append_row v15 (.tmp 60) (.tmp 62) 22 rfl wr.heap.size 24 i0 (.agg (List.replicate 32 (bV 0)).toArray) 32 32 Tryd.underlying22 hi hz0 hz1 hz2 (by kernel_rfl) (by decide) vo _ (hsL P) rfl HO.out.1 ⟨gv15, 0, none⟩ 1 1 (zM.map bV) rfl (by rw [LZ.out]) (hs_one NF.out) (bV_one' _) (by have := HP20.out; unfold maxLen; omega) (by have := HP20.out; omega) hHeld.size ?_
          intro xv16 v16 q1 q2 _
          have HO2 := Lib.hid (HsOwn.push (base := wr.heap.size) HO.out.2 LZL.out q1)
          have FB := Lib.hid (row_far FB.out q2 OFB.out)
          have hv16 := own_grown hHeld (Nat.le_refl _) hHeld.size HO.out.1 q2
          clear q1 q2 hHeld
          go_frame
          refine hK.out _ _ hv16 (fun hHeld => ?_)
          clear hK K hv16
          refine wpAnyH_ready (rs := [12]) (by kernel_rfl) (by simp) (held_cons rfl (fun K hK => ?_) AllReadyH.nil)
          go_simp
          refine (climb_v_no x k n (P ++ [zM]) _ _ HO2.out.at NO1.out).mono ?_
          rintro e v17 ⟨rfl, bb⟩
          have HO2 := Lib.hid (HO2.out.keep bb)
          have FB := Lib.hid (row_below FB.out bb)
          have hv17 := hHeld.trans (bb.mono hHeld.size)
          clear bb hHeld
          go_wp2_with fail
          refine hK.out _ _ hv17 (fun hHeld => ?_)
          clear hK K hv17
          refine held_take (i := 13) (v := (.tuple #[.agg (zM.map bV).toArray, .bool false])) rfl (by kernel_rfl) (by kernel_rfl) (by kernel_rfl) (fun _ _ _ h => h) (Or.inl ⟨by rfl, fun w' _ => by kernel_rfl⟩) hHeld ?_
          go_frame
          refine held_take (i := 14) (v := (.agg (zM.map bV).toArray)) rfl (by kernel_rfl) (by kernel_rfl) (by kernel_rfl) (fun _ _ _ h => h) (Or.inl ⟨by rfl, fun w' _ => by kernel_rfl⟩) hHeld ?_
          go_frame
          refine held_take (i := 15) (v := (.bool false)) rfl (by kernel_rfl) (by kernel_rfl) (by kernel_rfl) (fun _ _ _ h => h) (Or.inl ⟨by rfl, fun w' _ => by kernel_rfl⟩) hHeld ?_
          go_frame
          refine wpAnyH_ready (rs := [17]) (by kernel_rfl) (by simp) (held_cons rfl (fun K hK => ?_) AllReadyH.nil)
          rw [if_pos (by rfl)]
          refine wp_store_whole 24 (.tmp 10) (.tmp 65) rfl gv14 (zM.map bV) (zM.map bV) 24 rfl rfl (rfl) FB.out (by kernel_rfl) (bV_one _) ?_
          intro v18 q1 q2
          have FB := Lib.hid q1
          have hv18 := hHeld.grown q2 hHeld.size (fun k hk => by cases hk; exact GFB.out)
          clear q1 q2 hHeld
          go_frame
          refine hK.out _ _ hv18 (fun hHeld => ?_)
          clear hK K hv18
          refine held_take (i := 18) (v := (.bool false)) rfl (by kernel_rfl) (by kernel_rfl) (by kernel_rfl) (fun _ _ _ h => h) (Or.inl ⟨by rfl, fun w' _ => by kernel_rfl⟩) hHeld ?_
          go_frame
          refine wpAnyH_done (by kernel_rfl) ?_ _
          have B9 := Lib.hid hHeld
          clear hHeld
          go_wp2_with fail
          go_meet
          case rel => exact ⟨rfl, B9.out⟩
      · skip
        rw [if_pos (by rfl)]
        refine wp_slice_one 22 24 (.tmp 61) rfl (zM.map bV) rfl Tryd.underlying22 i0 _ hi hz0 (by rw [hz1, LZ.out]) (by rw [LZ.out]; omega) (by rw [LZ.out]; omega) ?_
        have nf := heap_alloc_new wd (.cells (zM.map bV).toArray 24 (0, 0))
        have bb := (Below.refl wd.heap.size wd).alloc (Nat.le_refl _) (.cells (zM.map bV).toArray 24 (0, 0))
        obtain ⟨gv19, hgv19⟩ : ∃ g, g = wd.heap.size := ⟨_, rfl⟩
        generalize hqv19 : World.alloc _ _ = v19
        have ev19 : wd.alloc (.cells (zM.map bV).toArray 24 (0, 0)) = v19 := hqv19
        rw [ev19] at nf bb
        rw [← hgv19] at nf ⊢
        have NF := Lib.hid nf
        have hv19 := hHeld.trans (bb.mono hHeld.size)
        clear nf bb hqv19 ev19 hgv19 hHeld
        go_frame
        refine hK.out _ _ hv19 (fun hHeld => ?_)
        clear hK K hv19
        refine wpAnyH_ready (rs := [8, 16]) (by kernel_rfl) (by simp) (held_cons rfl (fun K hK => ?_) (held_cons rfl (fun K hK => ?_) AllReadyH.nil))
        · skip
          go_simp
          refine (hashes_v P _ _ (HP.out.below hHeld) HP20.out).mono ?_
          rintro e v20 ⟨vo, rfl, ho, bb⟩
          have HO := Lib.hid (ho.base hHeld.size)
          clear ho
          have NF := Lib.hid (row_below NF.out bb)
          have hv20 := hHeld.trans (bb.mono hHeld.size)
          clear bb hHeld
          go_wp2_with fail
          refine hK.out _ _ hv20 (fun hHeld => ?_)
          clear hK K hv20
          refine wpAnyH_ready (rs := [11, 16]) (by kernel_rfl) (by simp) (held_cons rfl (fun K hK => ?_) (held_cons rfl (fun K hK => ?_) AllReadyH.nil))
          · skip
            rw [if_pos (by rfl)]
            refine wp_append_row v20 (.tmp 60) (.tmp 62) 22 rfl wr.heap.size 24 i0 (.agg (List.replicate 32 (bV 0)).toArray) 32 32 Tryd.underlying22 hi hz0 hz1 hz2 (by kernel_rfl) (by decide) vo _ (hsL P) rfl HO.out.1 ⟨gv19, 0, none⟩ 1 1 (zM.map bV) rfl (by rw [LZ.out]) (hs_one NF.out) (bV_one' _) (by have := HP20.out; unfold maxLen; omega) (by have := HP20.out; omega) hHeld.size ?_
            intro xv21 v21 q1 q2 _
            have HO2 := Lib.hid (HsOwn.push (base := wr.heap.size) HO.out.2 LZL.out q1)
            have hv21 := own_grown hHeld (Nat.le_refl _) hHeld.size HO.out.1 q2
            clear q1 q2 hHeld
            go_frame
            refine hK.out _ _ hv21 (fun hHeld => ?_)
            clear hK K hv21
            refine wpAnyH_ready (rs := [12, 16]) (by kernel_rfl) (by simp) (held_cons rfl (fun K hK => ?_) (held_cons rfl (fun K hK => ?_) AllReadyH.nil))
            · skip
              go_simp
              refine (climb_v_no x k n (P ++ [zM]) _ _ HO2.out.at NO1.out).mono ?_
              rintro e v22 ⟨rfl, bb⟩
              have HO2 := Lib.hid (HO2.out.keep bb)
              have hv22 := hHeld.trans (bb.mono hHeld.size)
              clear bb hHeld
              go_wp2_with fail
              refine hK.out _ _ hv22 (fun hHeld => ?_)
              clear hK K hv22
              refine held_take (i := 13) (v := (.tuple #[.agg (zM.map bV).toArray, .bool false])) rfl (by kernel_rfl) (by kernel_rfl) (by kernel_rfl) (fun _ _ _ h => h) (Or.inl ⟨by rfl, fun w' _ => by kernel_rfl⟩) hHeld ?_
              go_frame
              refine held_take (i := 14) (v := (.agg (zM.map bV).toArray)) rfl (by kernel_rfl) (by kernel_rfl) (by kernel_rfl) (fun _ _ _ h => h) (Or.inl ⟨by rfl, fun w' _ => by kernel_rfl⟩) hHeld ?_
              go_frame
              refine held_take (i := 15) (v := (.bool false)) rfl (by kernel_rfl) (by kernel_rfl) (by kernel_rfl) (fun _ _ _ h => h) (Or.inl ⟨by rfl, fun w' _ => by kernel_rfl⟩) hHeld ?_
              go_frame
              refine wpAnyH_ready (rs := [16]) (by kernel_rfl) (by simp) (held_cons rfl (fun K hK => ?_) AllReadyH.nil)
              go_simp
              have nf := heap_alloc_new v22 (.cells (List.replicate 32 (bV 0)).toArray 24 (0, 0))
              have bb := (Below.refl v22.heap.size v22).alloc (Nat.le_refl _) (.cells (List.replicate 32 (bV 0)).toArray 24 (0, 0))
              obtain ⟨gv23, hgv23⟩ : ∃ g, g = v22.heap.size := ⟨_, rfl⟩
              have GFB : Hid (wr.heap.size ≤ gv23) := by show _ ≤ _; rw [hgv23]; exact hHeld.size
              generalize hqv23 : World.alloc _ _ = v23
              have ev23 : v22.alloc (.cells (List.replicate 32 (bV 0)).toArray 24 (0, 0)) = v23 := hqv23
              rw [ev23] at nf bb
              rw [← hgv23] at nf ⊢
              have FB := Lib.hid nf
              have HO2 := Lib.hid (HO2.out.keep bb)
              have hv23 := hHeld.trans (bb.mono hHeld.size)
              clear nf bb hqv23 ev23 hgv23 hHeld
              refine hK.out _ _ hv23 (fun hHeld => ?_)
              clear hK K hv23
              refine wpAnyH_ready (rs := [17]) (by kernel_rfl) (by simp) (held_cons rfl (fun K hK => ?_) AllReadyH.nil)
              rw [if_pos (by rfl)]
              refine wp_store_whole 24 (.tmp 10) (.tmp 65) rfl gv23 (zM.map bV) (zM.map bV) 24 rfl rfl (rfl) FB.out (by kernel_rfl) (bV_one _) ?_
              intro v24 q1 q2
              have FB := Lib.hid q1
              have hv24 := hHeld.grown q2 hHeld.size (fun k hk => by cases hk; exact GFB.out)
              clear q1 q2 hHeld
              go_frame
              refine hK.out _ _ hv24 (fun hHeld => ?_)
              clear hK K hv24
              refine held_take (i := 18) (v := (.bool false)) rfl (by kernel_rfl) (by kernel_rfl) (by kernel_rfl) (fun _ _ _ h => h) (Or.inl ⟨by rfl, fun w' _ => by kernel_rfl⟩) hHeld ?_
              go_frame
              refine wpAnyH_done (by kernel_rfl) ?_ _
              have B9 := Lib.hid hHeld
              clear hHeld
              go_wp2_with fail
              go_meet
              case rel => exact ⟨rfl, B9.out⟩
            · skip
              go_simp
              have nf := heap_alloc_new v21 (.cells (List.replicate 32 (bV 0)).toArray 24 (0, 0))
              have bb := (Below.refl v21.heap.size v21).alloc (Nat.le_refl _) (.cells (List.replicate 32 (bV 0)).toArray 24 (0, 0))
              obtain ⟨gv25, hgv25⟩ : ∃ g, g = v21.heap.size := ⟨_, rfl⟩
              have GFB : Hid (wr.heap.size ≤ gv25) := by show _ ≤ _; rw [hgv25]; exact hHeld.size
              generalize hqv25 : World.alloc _ _ = v25
              have ev25 : v21.alloc (.cells (List.replicate 32 (bV 0)).toArray 24 (0, 0)) = v25 := hqv25
              rw [ev25] at nf bb
              rw [← hgv25] at nf ⊢
              have FB := Lib.hid nf
              have HO2 := Lib.hid (HO2.out.keep bb)
              have hv25 := hHeld.trans (bb.mono hHeld.size)
              clear nf bb hqv25 ev25 hgv25 hHeld
              refine hK.out _ _ hv25 (fun hHeld => ?_)
              clear hK K hv25
              refine wpAnyH_ready (rs := [12]) (by kernel_rfl) (by simp) (held_cons rfl (fun K hK => ?_) AllReadyH.nil)
              go_simp
              refine (climb_v_no x k n (P ++ [zM]) _ _ HO2.out.at NO1.out).mono ?_
              rintro e v26 ⟨rfl, bb⟩
              have HO2 := Lib.hid (HO2.out.keep bb)
              have FB := Lib.hid (row_below FB.out bb)
              have hv26 := hHeld.trans (bb.mono hHeld.size)
              clear bb hHeld
              go_wp2_with fail
              refine hK.out _ _ hv26 (fun hHeld => ?_)
              clear hK K hv26
              refine held_take (i := 13) (v := (.tuple #[.agg (zM.map bV).toArray, .bool false])) rfl (by kernel_rfl) (by kernel_rfl) (by kernel_rfl) (fun _ _ _ h => h) (Or.inl ⟨by rfl, fun w' _ => by kernel_rfl⟩) hHeld ?_
              go_frame
              refine held_take (i := 14) (v := (.agg (zM.map bV).toArray)) rfl (by kernel_rfl) (by kernel_rfl) (by kernel_rfl) (fun _ _ _ h => h) (Or.inl ⟨by rfl, fun w' _ => by kernel_rfl⟩) hHeld ?_
              go_frame
              refine held_take (i := 15) (v := (.bool false)) rfl (by kernel_rfl) (by kernel_rfl) (by kernel_rfl) (fun _ _ _ h => h) (Or.inl ⟨by rfl, fun w' _ => by kernel_rfl⟩) hHeld ?_
              go_frame
              refine wpAnyH_ready (rs := [17]) (by kernel_rfl) (by simp) (held_cons rfl (fun K hK => ?_) AllReadyH.nil)
              rw [if_pos (by rfl)]
              refine wp_store_whole 24 (.tmp 10) (.tmp 65) rfl gv25 (zM.map bV) (zM.map bV) 24 rfl rfl (rfl) FB.out (by kernel_rfl) (bV_one _) ?_
              intro v27 q1 q2
              have FB := Lib.hid q1
              have hv27 := hHeld.grown q2 hHeld.size (fun k hk => by cases hk; exact GFB.out)
              clear q1 q2 hHeld
              go_frame
              refine hK.out _ _ hv27 (fun hHeld => ?_)
              clear hK K hv27
              refine held_take (i := 18) (v := (.bool false)) rfl (by kernel_rfl) (by kernel_rfl) (by kernel_rfl) (fun _ _ _ h => h) (Or.inl ⟨by rfl, fun w' _ => by kernel_rfl⟩) hHeld ?_
              go_frame
              refine wpAnyH_done (by kernel_rfl) ?_ _
              have B9 := Lib.hid hHeld
              clear hHeld
              go_wp2_with fail
              go_meet
              case rel => exact ⟨rfl, B9.out⟩
          · skip
            go_simp
            have nf := heap_alloc_new v20 (.cells (List.replicate 32 (bV 0)).toArray 24 (0, 0))
            have bb := (Below.refl v20.heap.size v20).alloc (Nat.le_refl _) (.cells (List.replicate 32 (bV 0)).toArray 24 (0, 0))
            obtain ⟨gv28, hgv28⟩ : ∃ g, g = v20.heap.size := ⟨_, rfl⟩
            have GFB : Hid (wr.heap.size ≤ gv28) := by show _ ≤ _; rw [hgv28]; exact hHeld.size
            have OFB : Hid ((vo).ownBlock ≠ some gv28) := by show _ ≠ _; intro h; have := HO.out.lt _ h; omega
            generalize hqv28 : World.alloc _ _ = v28
            have ev28 : v20.alloc (.cells (List.replicate 32 (bV 0)).toArray 24 (0, 0)) = v28 := hqv28
            rw [ev28] at nf bb
            rw [← hgv28] at nf ⊢
            have FB := Lib.hid nf
            have NF := Lib.hid (row_below NF.out bb)
            have HO := Lib.hid (HO.out.keep bb)
            have hv28 := hHeld.trans (bb.mono hHeld.size)
            clear nf bb hqv28 ev28 hgv28 hHeld
            refine hK.out _ _ hv28 (fun hHeld => ?_)
            clear hK K hv28
            refine wpAnyH_ready (rs := [11]) (by kernel_rfl) (by simp) (held_cons rfl (fun K hK => ?_) AllReadyH.nil)
            rw [if_pos (by rfl)]
            refine wp_append_row v28 (.tmp 60) (.tmp 62) 22 rfl wr.heap.size 24 i0 (.agg (List.replicate 32 (bV 0)).toArray) 32 32 Tryd.underlying22 hi hz0 hz1 hz2 (by kernel_rfl) (by decide) vo _ (hsL P) rfl HO.out.1 ⟨gv19, 0, none⟩ 1 1 (zM.map bV) rfl (by rw [LZ.out]) (hs_one NF.out) (bV_one' _) (by have := HP20.out; unfold maxLen; omega) (by have := HP20.out; omega) hHeld.size ?_
            intro xv29 v29 q1 q2 _
            have HO2 := Lib.hid (HsOwn.push (base := wr.heap.size) HO.out.2 LZL.out q1)
            have FB := Lib.hid (row_far FB.out q2 OFB.out)
            have hv29 := own_grown hHeld (Nat.le_refl _) hHeld.size HO.out.1 q2
            clear q1 q2 hHeld
            go_frame
            refine hK.out _ _ hv29 (fun hHeld => ?_)
            clear hK K hv29
            refine wpAnyH_ready (rs := [12]) (by kernel_rfl) (by simp) (held_cons rfl (fun K hK => ?_) AllReadyH.nil)
            go_simp
            refine (climb_v_no x k n (P ++ [zM]) _ _ HO2.out.at NO1.out).mono ?_
            rintro e v30 ⟨rfl, bb⟩
            have HO2 := Lib.hid (HO2.out.keep bb)
            have FB := Lib.hid (row_below FB.out bb)
            have hv30 := hHeld.trans (bb.mono hHeld.size)
            clear bb hHeld
            go_wp2_with fail
            refine hK.out _ _ hv30 (fun hHeld => ?_)
            clear hK K hv30
            refine held_take (i := 13) (v := (.tuple #[.agg (zM.map bV).toArray, .bool false])) rfl (by kernel_rfl) (by kernel_rfl) (by kernel_rfl) (fun _ _ _ h => h) (Or.inl ⟨by rfl, fun w' _ => by kernel_rfl⟩) hHeld ?_
            go_frame
            refine held_take (i := 14) (v := (.agg (zM.map bV).toArray)) rfl (by kernel_rfl) (by kernel_rfl) (by kernel_rfl) (fun _ _ _ h => h) (Or.inl ⟨by rfl, fun w' _ => by kernel_rfl⟩) hHeld ?_
            go_frame
            refine held_take (i := 15) (v := (.bool false)) rfl (by kernel_rfl) (by kernel_rfl) (by kernel_rfl) (fun _ _ _ h => h) (Or.inl ⟨by rfl, fun w' _ => by kernel_rfl⟩) hHeld ?_
            go_frame
            refine wpAnyH_ready (rs := [17]) (by kernel_rfl) (by simp) (held_cons rfl (fun K hK => ?_) AllReadyH.nil)
            rw [if_pos (by rfl)]
            refine wp_store_whole 24 (.tmp 10) (.tmp 65) rfl gv28 (zM.map bV) (zM.map bV) 24 rfl rfl (rfl) FB.out (by kernel_rfl) (bV_one _) ?_
            intro v31 q1 q2
            have FB := Lib.hid q1
            have hv31 := hHeld.grown q2 hHeld.size (fun k hk => by cases hk; exact GFB.out)
            clear q1 q2 hHeld
            go_frame
            refine hK.out _ _ hv31 (fun hHeld => ?_)
            clear hK K hv31
            refine held_take (i := 18) (v := (.bool false)) rfl (by kernel_rfl) (by kernel_rfl) (by kernel_rfl) (fun _ _ _ h => h) (Or.inl ⟨by rfl, fun w' _ => by kernel_rfl⟩) hHeld ?_
            go_frame
            refine wpAnyH_done (by kernel_rfl) ?_ _
            have B9 := Lib.hid hHeld
            clear hHeld
            go_wp2_with fail
            go_meet
            case rel => exact ⟨rfl, B9.out⟩
        · skip
          go_simp
          have nf := heap_alloc_new v19 (.cells (List.replicate 32 (bV 0)).toArray 24 (0, 0))
          have bb := (Below.refl v19.heap.size v19).alloc (Nat.le_refl _) (.cells (List.replicate 32 (bV 0)).toArray 24 (0, 0))
          obtain ⟨gv32, hgv32⟩ : ∃ g, g = v19.heap.size := ⟨_, rfl⟩
          have GFB : Hid (wr.heap.size ≤ gv32) := by show _ ≤ _; rw [hgv32]; exact hHeld.size
          generalize hqv32 : World.alloc _ _ = v32
          have ev32 : v19.alloc (.cells (List.replicate 32 (bV 0)).toArray 24 (0, 0)) = v32 := hqv32
          rw [ev32] at nf bb
          rw [← hgv32] at nf ⊢
          have FB := Lib.hid nf
          have NF := Lib.hid (row_below NF.out bb)
          have hv32 := hHeld.trans (bb.mono hHeld.size)
          clear nf bb hqv32 ev32 hgv32 hHeld
          refine hK.out _ _ hv32 (fun hHeld => ?_)
          clear hK K hv32
          refine wpAnyH_ready (rs := [8]) (by kernel_rfl) (by simp) (held_cons rfl (fun K hK => ?_) AllReadyH.nil)
          go_simp
          refine (hashes_v P _ _ (HP.out.below hHeld) HP20.out).mono ?_
          rintro e v33 ⟨vo, rfl, ho, bb⟩
          have OFB : Hid (vo.ownBlock ≠ some gv32) := by show _ ≠ _; intro h; have h1 := (ho.1.lt _ h).1; have h2 := (Array.getElem?_eq_some_iff.1 FB.out).1; omega
          have HO := Lib.hid (ho.base hHeld.size)
          clear ho
          have NF := Lib.hid (row_below NF.out bb)
          have FB := Lib.hid (row_below FB.out bb)
          have hv33 := hHeld.trans (bb.mono hHeld.size)
          clear bb hHeld
          go_wp2_with fail
          refine hK.out _ _ hv33 (fun hHeld => ?_)
          clear hK K hv33
          refine wpAnyH_ready (rs := [11]) (by kernel_rfl) (by simp) (held_cons rfl (fun K hK => ?_) AllReadyH.nil)
          rw [if_pos (by rfl)]
          refine wp_append_row v33 (.tmp 60) (.tmp 62) 22 rfl wr.heap.size 24 i0 (.agg (List.replicate 32 (bV 0)).toArray) 32 32 Tryd.underlying22 hi hz0 hz1 hz2 (by kernel_rfl) (by decide) vo _ (hsL P) rfl HO.out.1 ⟨gv19, 0, none⟩ 1 1 (zM.map bV) rfl (by rw [LZ.out]) (hs_one NF.out) (bV_one' _) (by have := HP20.out; unfold maxLen; omega) (by have := HP20.out; omega) hHeld.size ?_
          intro xv34 v34 q1 q2 _
          have HO2 := Lib.hid (HsOwn.push (base := wr.heap.size) HO.out.2 LZL.out q1)
          have FB := Lib.hid (row_far FB.out q2 OFB.out)
          have hv34 := own_grown hHeld (Nat.le_refl _) hHeld.size HO.out.1 q2
          clear q1 q2 hHeld
          go_frame
          refine hK.out _ _ hv34 (fun hHeld => ?_)
          clear hK K hv34
          refine wpAnyH_ready (rs := [12]) (by kernel_rfl) (by simp) (held_cons rfl (fun K hK => ?_) AllReadyH.nil)
          go_simp
          refine (climb_v_no x k n (P ++ [zM]) _ _ HO2.out.at NO1.out).mono ?_
          rintro e v35 ⟨rfl, bb⟩
          have HO2 := Lib.hid (HO2.out.keep bb)
          have FB := Lib.hid (row_below FB.out bb)
          have hv35 := hHeld.trans (bb.mono hHeld.size)
          clear bb hHeld
          go_wp2_with fail
          refine hK.out _ _ hv35 (fun hHeld => ?_)
          clear hK K hv35
          refine held_take (i := 13) (v := (.tuple #[.agg (zM.map bV).toArray, .bool false])) rfl (by kernel_rfl) (by kernel_rfl) (by kernel_rfl) (fun _ _ _ h => h) (Or.inl ⟨by rfl, fun w' _ => by kernel_rfl⟩) hHeld ?_
          go_frame
          refine held_take (i := 14) (v := (.agg (zM.map bV).toArray)) rfl (by kernel_rfl) (by kernel_rfl) (by kernel_rfl) (fun _ _ _ h => h) (Or.inl ⟨by rfl, fun w' _ => by kernel_rfl⟩) hHeld ?_
          go_frame
          refine held_take (i := 15) (v := (.bool false)) rfl (by kernel_rfl) (by kernel_rfl) (by kernel_rfl) (fun _ _ _ h => h) (Or.inl ⟨by rfl, fun w' _ => by kernel_rfl⟩) hHeld ?_
          go_frame
          refine wpAnyH_ready (rs := [17]) (by kernel_rfl) (by simp) (held_cons rfl (fun K hK => ?_) AllReadyH.nil)
          rw [if_pos (by rfl)]
          refine wp_store_whole 24 (.tmp 10) (.tmp 65) rfl gv32 (zM.map bV) (zM.map bV) 24 rfl rfl (rfl) FB.out (by kernel_rfl) (bV_one _) ?_
          intro v36 q1 q2
          have FB := Lib.hid q1
          have hv36 := hHeld.grown q2 hHeld.size (fun k hk => by cases hk; exact GFB.out)
          clear q1 q2 hHeld
          go_frame
          refine hK.out _ _ hv36 (fun hHeld => ?_)
          clear hK K hv36
          refine held_take (i := 18) (v := (.bool false)) rfl (by kernel_rfl) (by kernel_rfl) (by kernel_rfl) (fun _ _ _ h => h) (Or.inl ⟨by rfl, fun w' _ => by kernel_rfl⟩) hHeld ?_
          go_frame
          refine wpAnyH_done (by kernel_rfl) ?_ _
          have B9 := Lib.hid hHeld
          clear hHeld
          go_wp2_with fail
          go_meet
          case rel => exact ⟨rfl, B9.out⟩
      · skip
        go_simp
        have nf := heap_alloc_new wd (.cells (List.replicate 32 (bV 0)).toArray 24 (0, 0))
        have bb := (Below.refl wd.heap.size wd).alloc (Nat.le_refl _) (.cells (List.replicate 32 (bV 0)).toArray 24 (0, 0))
        obtain ⟨gv37, hgv37⟩ : ∃ g, g = wd.heap.size := ⟨_, rfl⟩
        have GFB : Hid (wr.heap.size ≤ gv37) := by show _ ≤ _; rw [hgv37]; exact hHeld.size
        generalize hqv37 : World.alloc _ _ = v37
        have ev37 : wd.alloc (.cells (List.replicate 32 (bV 0)).toArray 24 (0, 0)) = v37 := hqv37
        rw [ev37] at nf bb
        rw [← hgv37] at nf ⊢
        have FB := Lib.hid nf
        have hv37 := hHeld.trans (bb.mono hHeld.size)
        clear nf bb hqv37 ev37 hgv37 hHeld
        refine hK.out _ _ hv37 (fun hHeld => ?_)
        clear hK K hv37
        refine wpAnyH_ready (rs := [8, 10]) (by kernel_rfl) (by simp) (held_cons rfl (fun K hK => ?_) (held_cons rfl (fun K hK => ?_) AllReadyH.nil))
        · skip
          go_simp
          refine (hashes_v P _ _ (HP.out.below hHeld) HP20.out).mono ?_
          rintro e v38 ⟨vo, rfl, ho, bb⟩
          have OFB : Hid (vo.ownBlock ≠ some gv37) := by show _ ≠ _; intro h; have h1 := (ho.1.lt _ h).1; have h2 := (Array.getElem?_eq_some_iff.1 FB.out).1; omega
          have HO := Lib.hid (ho.base hHeld.size)
          clear ho
          have FB := Lib.hid (row_below FB.out bb)
          have hv38 := hHeld.trans (bb.mono hHeld.size)
          clear bb hHeld
          go_wp2_with fail
          refine hK.out _ _ hv38 (fun hHeld => ?_)
          clear hK K hv38
          refine wpAnyH_ready (rs := [10]) (by kernel_rfl) (by simp) (held_cons rfl (fun K hK => ?_) AllReadyH.nil)
          rw [if_pos (by rfl)]
          refine wp_slice_one 22 24 (.tmp 61) rfl (zM.map bV) rfl Tryd.underlying22 i0 _ hi hz0 (by rw [hz1, LZ.out]) (by rw [LZ.out]; omega) (by rw [LZ.out]; omega) ?_
          have nf := heap_alloc_new v38 (.cells (zM.map bV).toArray 24 (0, 0))
          have bb := (Below.refl v38.heap.size v38).alloc (Nat.le_refl _) (.cells (zM.map bV).toArray 24 (0, 0))
          obtain ⟨gv39, hgv39⟩ : ∃ g, g = v38.heap.size := ⟨_, rfl⟩
          generalize hqv39 : World.alloc _ _ = v39
          have ev39 : v38.alloc (.cells (zM.map bV).toArray 24 (0, 0)) = v39 := hqv39
          rw [ev39] at nf bb
          rw [← hgv39] at nf ⊢
          have NF := Lib.hid nf
          have FB := Lib.hid (row_below FB.out bb)
          have HO := Lib.hid (HO.out.keep bb)
          have hv39 := hHeld.trans (bb.mono hHeld.size)
          clear nf bb hqv39 ev39 hgv39 hHeld
          go_frame
          refine hK.out _ _ hv39 (fun hHeld => ?_)
          clear hK K hv39
          refine wpAnyH_ready (rs := [11]) (by kernel_rfl) (by simp) (held_cons rfl (fun K hK => ?_) AllReadyH.nil)
          rw [if_pos (by rfl)]
          refine wp_append_row v39 (.tmp 60) (.tmp 62) 22 rfl wr.heap.size 24 i0 (.agg (List.replicate 32 (bV 0)).toArray) 32 32 Tryd.underlying22 hi hz0 hz1 hz2 (by kernel_rfl) (by decide) vo _ (hsL P) rfl HO.out.1 ⟨gv39, 0, none⟩ 1 1 (zM.map bV) rfl (by rw [LZ.out]) (hs_one NF.out) (bV_one' _) (by have := HP20.out; unfold maxLen; omega) (by have := HP20.out; omega) hHeld.size ?_
          intro xv40 v40 q1 q2 _
          have HO2 := Lib.hid (HsOwn.push (base := wr.heap.size) HO.out.2 LZL.out q1)
          have FB := Lib.hid (row_far FB.out q2 OFB.out)
          have hv40 := own_grown hHeld (Nat.le_refl _) hHeld.size HO.out.1 q2
          clear q1 q2 hHeld
          go_frame
          refine hK.out _ _ hv40 (fun hHeld => ?_)
          clear hK K hv40
          refine wpAnyH_ready (rs := [12]) (by kernel_rfl) (by simp) (held_cons rfl (fun K hK => ?_) AllReadyH.nil)
          go_simp
          refine (climb_v_no x k n (P ++ [zM]) _ _ HO2.out.at NO1.out).mono ?_
          rintro e v41 ⟨rfl, bb⟩
          have HO2 := Lib.hid (HO2.out.keep bb)
          have FB := Lib.hid (row_below FB.out bb)
          have hv41 := hHeld.trans (bb.mono hHeld.size)
          clear bb hHeld
          go_wp2_with fail
          refine hK.out _ _ hv41 (fun hHeld => ?_)
          clear hK K hv41
          refine held_take (i := 13) (v := (.tuple #[.agg (zM.map bV).toArray, .bool false])) rfl (by kernel_rfl) (by kernel_rfl) (by kernel_rfl) (fun _ _ _ h => h) (Or.inl ⟨by rfl, fun w' _ => by kernel_rfl⟩) hHeld ?_
          go_frame
          refine held_take (i := 14) (v := (.agg (zM.map bV).toArray)) rfl (by kernel_rfl) (by kernel_rfl) (by kernel_rfl) (fun _ _ _ h => h) (Or.inl ⟨by rfl, fun w' _ => by kernel_rfl⟩) hHeld ?_
          go_frame
          refine held_take (i := 15) (v := (.bool false)) rfl (by kernel_rfl) (by kernel_rfl) (by kernel_rfl) (fun _ _ _ h => h) (Or.inl ⟨by rfl, fun w' _ => by kernel_rfl⟩) hHeld ?_
          go_frame
          refine wpAnyH_ready (rs := [17]) (by kernel_rfl) (by simp) (held_cons rfl (fun K hK => ?_) AllReadyH.nil)
          rw [if_pos (by rfl)]
          refine wp_store_whole 24 (.tmp 10) (.tmp 65) rfl gv37 (zM.map bV) (zM.map bV) 24 rfl rfl (rfl) FB.out (by kernel_rfl) (bV_one _) ?_
          intro v42 q1 q2
          have FB := Lib.hid q1
          have hv42 := hHeld.grown q2 hHeld.size (fun k hk => by cases hk; exact GFB.out)
          clear q1 q2 hHeld
          go_frame
          refine hK.out _ _ hv42 (fun hHeld => ?_)
          clear hK K hv42
          refine held_take (i := 18) (v := (.bool false)) rfl (by kernel_rfl) (by kernel_rfl) (by kernel_rfl) (fun _ _ _ h => h) (Or.inl ⟨by rfl, fun w' _ => by kernel_rfl⟩) hHeld ?_
          go_frame
          refine wpAnyH_done (by kernel_rfl) ?_ _
          have B9 := Lib.hid hHeld
          clear hHeld
          go_wp2_with fail
          go_meet
          case rel => exact ⟨rfl, B9.out⟩
        · skip
          rw [if_pos (by rfl)]
          refine wp_slice_one 22 24 (.tmp 61) rfl (zM.map bV) rfl Tryd.underlying22 i0 _ hi hz0 (by rw [hz1, LZ.out]) (by rw [LZ.out]; omega) (by rw [LZ.out]; omega) ?_
          have nf := heap_alloc_new v37 (.cells (zM.map bV).toArray 24 (0, 0))
          have bb := (Below.refl v37.heap.size v37).alloc (Nat.le_refl _) (.cells (zM.map bV).toArray 24 (0, 0))
          obtain ⟨gv43, hgv43⟩ : ∃ g, g = v37.heap.size := ⟨_, rfl⟩
          generalize hqv43 : World.alloc _ _ = v43
          have ev43 : v37.alloc (.cells (zM.map bV).toArray 24 (0, 0)) = v43 := hqv43
          rw [ev43] at nf bb
          rw [← hgv43] at nf ⊢
          have NF := Lib.hid nf
          have FB := Lib.hid (row_below FB.out bb)
          have hv43 := hHeld.trans (bb.mono hHeld.size)
          clear nf bb hqv43 ev43 hgv43 hHeld
          go_frame
          refine hK.out _ _ hv43 (fun hHeld => ?_)
          clear hK K hv43
          refine wpAnyH_ready (rs := [8]) (by kernel_rfl) (by simp) (held_cons rfl (fun K hK => ?_) AllReadyH.nil)
          go_simp
          refine (hashes_v P _ _ (HP.out.below hHeld) HP20.out).mono ?_
          rintro e v44 ⟨vo, rfl, ho, bb⟩
          have OFB : Hid (vo.ownBlock ≠ some gv37) := by show _ ≠ _; intro h; have h1 := (ho.1.lt _ h).1; have h2 := (Array.getElem?_eq_some_iff.1 FB.out).1; omega
          have HO := Lib.hid (ho.base hHeld.size)
          clear ho
          have FB := Lib.hid (row_below FB.out bb)
          have NF := Lib.hid (row_below NF.out bb)
          have hv44 := hHeld.trans (bb.mono hHeld.size)
          clear bb hHeld
          go_wp2_with fail
          refine hK.out _ _ hv44 (fun hHeld => ?_)
          clear hK K hv44
          refine wpAnyH_ready (rs := [11]) (by kernel_rfl) (by simp) (held_cons rfl (fun K hK => ?_) AllReadyH.nil)
          rw [if_pos (by rfl)]
          refine wp_append_row v44 (.tmp 60) (.tmp 62) 22 rfl wr.heap.size 24 i0 (.agg (List.replicate 32 (bV 0)).toArray) 32 32 Tryd.underlying22 hi hz0 hz1 hz2 (by kernel_rfl) (by decide) vo _ (hsL P) rfl HO.out.1 ⟨gv43, 0, none⟩ 1 1 (zM.map bV) rfl (by rw [LZ.out]) (hs_one NF.out) (bV_one' _) (by have := HP20.out; unfold maxLen; omega) (by have := HP20.out; omega) hHeld.size ?_
          intro xv45 v45 q1 q2 _
          have HO2 := Lib.hid (HsOwn.push (base := wr.heap.size) HO.out.2 LZL.out q1)
          have FB := Lib.hid (row_far FB.out q2 OFB.out)
          have hv45 := own_grown hHeld (Nat.le_refl _) hHeld.size HO.out.1 q2
          clear q1 q2 hHeld
          go_frame
          refine hK.out _ _ hv45 (fun hHeld => ?_)
          clear hK K hv45
          refine wpAnyH_ready (rs := [12]) (by kernel_rfl) (by simp) (held_cons rfl (fun K hK => ?_) AllReadyH.nil)
          go_simp
          refine (climb_v_no x k n (P ++ [zM]) _ _ HO2.out.at NO1.out).mono ?_
          rintro e v46 ⟨rfl, bb⟩
          have HO2 := Lib.hid (HO2.out.keep bb)
          have FB := Lib.hid (row_below FB.out bb)
          have hv46 := hHeld.trans (bb.mono hHeld.size)
          clear bb hHeld
          go_wp2_with fail
          refine hK.out _ _ hv46 (fun hHeld => ?_)
          clear hK K hv46
          refine held_take (i := 13) (v := (.tuple #[.agg (zM.map bV).toArray, .bool false])) rfl (by kernel_rfl) (by kernel_rfl) (by kernel_rfl) (fun _ _ _ h => h) (Or.inl ⟨by rfl, fun w' _ => by kernel_rfl⟩) hHeld ?_
          go_frame
          refine held_take (i := 14) (v := (.agg (zM.map bV).toArray)) rfl (by kernel_rfl) (by kernel_rfl) (by kernel_rfl) (fun _ _ _ h => h) (Or.inl ⟨by rfl, fun w' _ => by kernel_rfl⟩) hHeld ?_
          go_frame
          refine held_take (i := 15) (v := (.bool false)) rfl (by kernel_rfl) (by kernel_rfl) (by kernel_rfl) (fun _ _ _ h => h) (Or.inl ⟨by rfl, fun w' _ => by kernel_rfl⟩) hHeld ?_
          go_frame
          refine wpAnyH_ready (rs := [17]) (by kernel_rfl) (by simp) (held_cons rfl (fun K hK => ?_) AllReadyH.nil)
          rw [if_pos (by rfl)]
          refine wp_store_whole 24 (.tmp 10) (.tmp 65) rfl gv37 (zM.map bV) (zM.map bV) 24 rfl rfl (rfl) FB.out (by kernel_rfl) (bV_one _) ?_
          intro v47 q1 q2
          have FB := Lib.hid q1
          have hv47 := hHeld.grown q2 hHeld.size (fun k hk => by cases hk; exact GFB.out)
          clear q1 q2 hHeld
          go_frame
          refine hK.out _ _ hv47 (fun hHeld => ?_)
          clear hK K hv47
          refine held_take (i := 18) (v := (.bool false)) rfl (by kernel_rfl) (by kernel_rfl) (by kernel_rfl) (fun _ _ _ h => h) (Or.inl ⟨by rfl, fun w' _ => by kernel_rfl⟩) hHeld ?_
          go_frame
          refine wpAnyH_done (by kernel_rfl) ?_ _
          have B9 := Lib.hid hHeld
          clear hHeld
          go_wp2_with fail
          go_meet
          case rel => exact ⟨rfl, B9.out⟩
  case rest =>
    obtain ⟨rfl, hb⟩ := hcut
    have B := Lib.hid (B.out.trans (hb.mono B.out.size))
    have HKR := Lib.hid (HKR.out.below hb)
    have HL := Lib.hid (HL.out.below hb)
    have HP := Lib.hid (HP.out.below hb)
    have HX := Lib.hid (range_below HX.out hb)
    have F8 := Lib.hid (row_below F8.out hb)
    clear hb
    go_wp2_with ((with_reducible show wpList _ _ _ _ _ _); refine wpList_load_mid rfl 24 (.tmp 70) rfl b (o + k * 32) rfl (x.map bV) _ HX.out Tryd.underlying24 rfl (by rw [LX.out]; kernel_rfl) ?_; go_frame)
    refine (climb_v_no x n n P _ _ HP.out NO2.out).mono ?_
    rintro e w4 ⟨rfl, hb⟩
    have B := Lib.hid (B.out.trans (hb.mono B.out.size))
    have HKR := Lib.hid (HKR.out.below hb)
    have HL := Lib.hid (HL.out.below hb)
    have HP := Lib.hid (HP.out.below hb)
    have HX := Lib.hid (range_below HX.out hb)
    have F8 := Lib.hid (row_below F8.out hb)
    clear hb
    go_upto_region 14 with ((with_reducible show wpList _ _ _ _ _ _); refine wpList_store_row rfl 24 (.tmp 12) (.tmp 78) rfl w4.heap.size (zM.map bV).toArray rfl rfl 24 _ (heap_alloc_new w4 _) (by rw [ZMS.out]; kernel_rfl) (by rw [ZMS.out]; rfl) (bV_one _) ?_; go_frame)
    obtain ⟨fb1, ff, fb⟩ := box_filled w4 zM (Below.refl w4.heap.size w4)
    obtain ⟨g12, hg⟩ : ∃ g, g = w4.heap.size := ⟨_, rfl⟩
    generalize hq : World.setRow _ _ _ = wr
    have e2 : (w4.alloc (.cells (List.replicate 32 (bV 0)).toArray 24)).setRow w4.heap.size (zM.map bV).toArray = wr := hq
    rw [e2] at ff fb
    rw [← hg] at ff ⊢
    clear fb1 hq e2 hg
    have hb := fb
    have B := Lib.hid (B.out.trans (hb.mono B.out.size))
    have HKR := Lib.hid (HKR.out.below hb)
    have HL := Lib.hid (HL.out.below hb)
    have HP := Lib.hid (HP.out.below hb)
    have HX := Lib.hid (range_below HX.out hb)
    have F8 := Lib.hid (row_below F8.out hb)
    clear hb
    clear fb ff
    by_cases hq0 : 0 < q
    · have tq : (q : Int) > 0 := by omega
      have NO3 := Lib.hid (NO3.out (by rw [← HQ.out]; exact hq0))
      obtain ⟨vc, hvc⟩ : ∃ vc, vc = sliced sp2 1 q cap2 32 := ⟨_, rfl⟩
      have HPD : Hid (HsAt wr vc (P.drop 1)) := by show HsAt _ _ _; rw [hvc]; exact HP.out.tail 1 (by omega)
      have HVC := Lib.hid hvc
      clear hvc
      go_upto_region 15 with fail
      go_cut [14] (fun v14 wx => v14 = .bool false ∧ Below wr.heap.size wr wx)
      case first =>
        refine wp_region_held_drew (S := (fun w' => Below wr.heap.size wr w')) (by kernel_rfl) (Below.drew (Below.refl _ _)) (fun hHeld => ?_)
        generalize hwd : wr.drew = wd at hHeld ⊢
        clear hwd
        refine held_take (i := 0) (v := (.slice (some ⟨b, o, none⟩) n cap)) rfl (by kernel_rfl) (by kernel_rfl) (by kernel_rfl) (fun _ _ _ h => h) (Or.inl ⟨by rfl, fun w' _ => by kernel_rfl⟩) hHeld ?_
        go_frame
        refine held_take (i := 1) (v := (.int .i64 (k : Int))) rfl (by kernel_rfl) (by kernel_rfl) (by kernel_rfl) (fun _ _ _ h => h) (Or.inl ⟨by rfl, fun w' _ => by kernel_rfl⟩) hHeld ?_
        go_frame
        refine held_take (i := 2) (v := (.pointer (some ⟨b, o + k * 32, none⟩))) rfl (by kernel_rfl) (by kernel_rfl) (by kernel_rfl) (fun _ _ _ h => h) (Or.inl ⟨by rfl, fun w' _ => by go_simp⟩) hHeld ?_
        go_frame
        refine held_take (i := 3) (v := (.agg (x.map bV).toArray)) rfl (by kernel_rfl) (by kernel_rfl) (by kernel_rfl) (fun _ _ _ h => h) (Sha.yieldsIf_load_mid (by rfl) 24 (.tmp 86) rfl b (o + k * 32) rfl (x.map bV) _ (fun w' hw' => range_below HX.out hw') Tryd.underlying24 rfl (by rw [LX.out]; kernel_rfl)) hHeld ?_
        go_frame
        refine held_take (i := 4) (v := (.int .i64 (k : Int))) rfl (by kernel_rfl) (by kernel_rfl) (by kernel_rfl) (fun _ _ _ h => h) (Or.inl ⟨by rfl, fun w' _ => by kernel_rfl⟩) hHeld ?_
        go_frame
        refine held_take (i := 5) (v := (.slice (some ⟨b, o, none⟩) n cap)) rfl (by kernel_rfl) (by kernel_rfl) (by kernel_rfl) (fun _ _ _ h => h) (Or.inl ⟨by rfl, fun w' _ => by kernel_rfl⟩) hHeld ?_
        go_frame
        refine held_take (i := 6) (v := (.int .i64 (n : Int))) rfl (by kernel_rfl) (by kernel_rfl) (by kernel_rfl) (fun _ _ _ h => h) (Or.inl ⟨by rfl, fun w' _ => by kernel_rfl⟩) hHeld ?_
        go_frame
        refine held_take (i := 7) (v := (.slice sp2 q cap2)) rfl (by kernel_rfl) (by kernel_rfl) (by kernel_rfl) (fun _ _ _ h => h) (Or.inl ⟨by rfl, fun w' _ => by kernel_rfl⟩) hHeld ?_
        go_frame
        refine held_take (i := 8) (v := vc) rfl (by kernel_rfl) (by kernel_rfl) (by kernel_rfl) (fun _ _ _ h => h) (yields_cutS_l (by rfl) 22 (.tmp 91) (.const (.int .i64 1)) rfl 24 32 Tryd.underlying22 (by kernel_rfl) sp2 q cap2 1 vc rfl rfl (by omega) HVC.out) hHeld ?_
        go_frame
        refine wpAnyH_ready (rs := [9]) (by kernel_rfl) (by simp) (held_cons rfl (fun K hK => ?_) AllReadyH.nil)
        go_simp
        refine (climb_v_no x k n (P.drop 1) _ _ (HPD.out.below hHeld) NO3.out).mono ?_
        rintro e v1 ⟨rfl, bb⟩
        have hv1 := hHeld.trans (bb.mono hHeld.size)
        clear bb hHeld
        go_wp2_with fail
        refine hK.out _ _ hv1 (fun hHeld => ?_)
        clear hK K hv1
        refine held_take (i := 10) (v := (.tuple #[.agg (zM.map bV).toArray, .bool false])) rfl (by kernel_rfl) (by kernel_rfl) (by kernel_rfl) (fun _ _ _ h => h) (Or.inl ⟨by rfl, fun w' _ => by kernel_rfl⟩) hHeld ?_
        go_frame
        refine held_take (i := 11) (v := (.agg (zM.map bV).toArray)) rfl (by kernel_rfl) (by kernel_rfl) (by kernel_rfl) (fun _ _ _ h => h) (Or.inl ⟨by rfl, fun w' _ => by kernel_rfl⟩) hHeld ?_
        go_frame
        refine held_take (i := 12) (v := (.bool false)) rfl (by kernel_rfl) (by kernel_rfl) (by kernel_rfl) (fun _ _ _ h => h) (Or.inl ⟨by rfl, fun w' _ => by kernel_rfl⟩) hHeld ?_
        go_frame
        refine held_take (i := 13) (v := (.bool false)) rfl (by kernel_rfl) (by kernel_rfl) (by kernel_rfl) (fun _ _ _ h => h) (Or.inl ⟨by rfl, fun w' _ => by kernel_rfl⟩) hHeld ?_
        go_frame
        refine wpAnyH_done (by kernel_rfl) ?_ _
        have B9 := Lib.hid hHeld
        clear hHeld
        go_wp2_with fail
        go_meet
        case rel => exact ⟨rfl, B9.out⟩
      case rest =>
        obtain ⟨rfl, hb⟩ := hcut
        rename_i wc
        have B := Lib.hid (B.out.trans (hb.mono B.out.size))
        have HKR := Lib.hid (HKR.out.below hb)
        have HL := Lib.hid (HL.out.below hb)
        have HP := Lib.hid (HP.out.below hb)
        have HX := Lib.hid (range_below HX.out hb)
        have F8 := Lib.hid (row_below F8.out hb)
        clear hb
        go_wp2_with fail
        refine wp_region_held_drew (S := (fun w' => Below wc.heap.size wc w')) (by kernel_rfl) (Below.drew (Below.refl _ _)) (fun hHeld => ?_)
        generalize hwd : wc.drew = wd at hHeld ⊢
        clear hwd
        refine held_take (i := 0) (v := (.bool true)) rfl (by kernel_rfl) (by kernel_rfl) (by kernel_rfl) (fun _ _ _ h => h) (Or.inl ⟨by rfl, fun w' _ => by kernel_rfl⟩) hHeld ?_
        go_frame
        refine held_take (i := 1) (v := (.bool true)) rfl (by kernel_rfl) (by kernel_rfl) (by kernel_rfl) (fun _ _ _ h => h) (Or.inl ⟨by rfl, fun w' _ => by kernel_rfl⟩) hHeld ?_
        go_frame
        refine held_take (i := 2) (v := (.bool true)) rfl (by kernel_rfl) (by kernel_rfl) (by kernel_rfl) (fun _ _ _ h => h) (Or.inl ⟨by rfl, fun w' _ => by kernel_rfl⟩) hHeld ?_
        go_frame
        refine held_take (i := 3) (v := (.bool true)) rfl (by kernel_rfl) (by kernel_rfl) (by kernel_rfl) (fun _ _ _ h => h) (Or.inl ⟨by rfl, fun w' _ => by kernel_rfl⟩) hHeld ?_
        go_frame
        refine held_take (i := 4) (v := (.bool true)) rfl (by kernel_rfl) (by kernel_rfl) (by kernel_rfl) (fun _ _ _ h => h) (Or.inl ⟨by rfl, fun w' _ => by kernel_rfl⟩) hHeld ?_
        go_frame
        refine held_take (i := 5) (v := (.agg (R.map bV).toArray)) rfl (by kernel_rfl) (by kernel_rfl) (by kernel_rfl) (fun _ _ _ h => h) (yieldsIf_load_row (by rfl) 24 (.tmp 8) rfl g8 rfl 24 (R.map bV).toArray (0, 0) _ (fun w' hw' => row_below F8.out hw') Tryd.underlying24 rfl (by rw [HRS.out]; kernel_rfl)) hHeld ?_
        go_frame
        refine held_take (i := 6) (v := (.slice (some ⟨b, o, none⟩) n cap)) rfl (by kernel_rfl) (by kernel_rfl) (by kernel_rfl) (fun _ _ _ h => h) (Or.inl ⟨by rfl, fun w' _ => by kernel_rfl⟩) hHeld ?_
        go_frame
        refine wpAnyH_ready (rs := [7]) (by kernel_rfl) (by simp) (held_cons rfl (fun K hK => ?_) AllReadyH.nil)
        rw [if_pos (by rfl)]
        go_simp
        refine (root_v l R _ _ (HKR.out.below hHeld) (HL.out.below hHeld) HN60.out HR.out).mono ?_
        rintro e v1 ⟨rfl, bb⟩
        have hv1 := hHeld.trans (bb.mono hHeld.size)
        clear bb hHeld
        go_wp2_with fail
        refine hK.out _ _ hv1 (fun hHeld => ?_)
        clear hK K hv1
        refine wpAnyH_ready (rs := [8]) (by kernel_rfl) (by simp) (held_cons rfl (fun K hK => ?_) AllReadyH.nil)
        rw [if_pos (by rfl)]
        go_simp
        refine (same_v R R true HRL.out HRL.out (by simp) _).mono ?_
        rintro e v2 ⟨rfl, bb⟩
        have hv2 := hHeld.trans (bb.mono hHeld.size)
        clear bb hHeld
        go_wp2_with fail
        refine hK.out _ _ hv2 (fun hHeld => ?_)
        clear hK K hv2
        refine held_take (i := 9) (v := (.bool true)) rfl (by kernel_rfl) (by kernel_rfl) (by kernel_rfl) (fun _ _ _ h => h) (Or.inl ⟨by rfl, fun w' _ => by kernel_rfl⟩) hHeld ?_
        go_frame
        refine held_take (i := 10) (v := (.bool true)) rfl (by kernel_rfl) (by kernel_rfl) (by kernel_rfl) (fun _ _ _ h => h) (Or.inl ⟨by rfl, fun w' _ => by kernel_rfl⟩) hHeld ?_
        go_frame
        refine held_take (i := 11) (v := (.bool false)) rfl (by kernel_rfl) (by kernel_rfl) (by kernel_rfl) (fun _ _ _ h => h) (Or.inl ⟨by rfl, fun w' _ => by kernel_rfl⟩) hHeld ?_
        go_frame
        refine held_take (i := 12) (v := (.bool true)) rfl (by kernel_rfl) (by kernel_rfl) (by kernel_rfl) (fun _ _ _ h => h) (Or.inl ⟨by rfl, fun w' _ => by kernel_rfl⟩) hHeld ?_
        go_frame
        refine held_take (i := 13) (v := (.bool true)) rfl (by kernel_rfl) (by kernel_rfl) (by kernel_rfl) (fun _ _ _ h => h) (Or.inl ⟨by rfl, fun w' _ => by kernel_rfl⟩) hHeld ?_
        go_frame
        refine held_take (i := 14) (v := (.bool true)) rfl (by kernel_rfl) (by kernel_rfl) (by kernel_rfl) (fun _ _ _ h => h) (Or.inl ⟨by rfl, fun w' _ => by kernel_rfl⟩) hHeld ?_
        go_frame
        refine held_take (i := 15) (v := (.bool false)) rfl (by kernel_rfl) (by kernel_rfl) (by kernel_rfl) (fun _ _ _ h => h) (Or.inl ⟨by rfl, fun w' _ => by kernel_rfl⟩) hHeld ?_
        go_frame
        refine held_take (i := 16) (v := (.bool true)) rfl (by kernel_rfl) (by kernel_rfl) (by kernel_rfl) (fun _ _ _ h => h) (Or.inl ⟨by rfl, fun w' _ => by kernel_rfl⟩) hHeld ?_
        go_frame
        refine held_take (i := 17) (v := (.bool true)) rfl (by kernel_rfl) (by kernel_rfl) (by kernel_rfl) (fun _ _ _ h => h) (Or.inl ⟨by rfl, fun w' _ => by kernel_rfl⟩) hHeld ?_
        go_frame
        refine held_take (i := 18) (v := (.bool true)) rfl (by kernel_rfl) (by kernel_rfl) (by kernel_rfl) (fun _ _ _ h => h) (Or.inl ⟨by rfl, fun w' _ => by kernel_rfl⟩) hHeld ?_
        go_frame
        refine held_take (i := 19) (v := (.bool false)) rfl (by kernel_rfl) (by kernel_rfl) (by kernel_rfl) (fun _ _ _ h => h) (Or.inl ⟨by rfl, fun w' _ => by kernel_rfl⟩) hHeld ?_
        go_frame
        refine held_take (i := 20) (v := (.bool true)) rfl (by kernel_rfl) (by kernel_rfl) (by kernel_rfl) (fun _ _ _ h => h) (Or.inl ⟨by rfl, fun w' _ => by kernel_rfl⟩) hHeld ?_
        go_frame
        refine held_take (i := 21) (v := (.bool true)) rfl (by kernel_rfl) (by kernel_rfl) (by kernel_rfl) (fun _ _ _ h => h) (Or.inl ⟨by rfl, fun w' _ => by kernel_rfl⟩) hHeld ?_
        go_frame
        refine held_take (i := 22) (v := (.bool true)) rfl (by kernel_rfl) (by kernel_rfl) (by kernel_rfl) (fun _ _ _ h => h) (Or.inl ⟨by rfl, fun w' _ => by kernel_rfl⟩) hHeld ?_
        go_frame
        refine wpAnyH_done (by kernel_rfl) ?_ _
        have B9 := Lib.hid (B.out.trans (hHeld.mono B.out.size))
        clear hHeld
        go_wp2_with fail
        go_ret
        exact ⟨rfl, B9.out⟩
    · have tq : ¬ (q : Int) > 0 := by omega
      go_wp2_with fail
      refine wp_region_held_drew (S := (fun w' => Below wr.heap.size wr w')) (by kernel_rfl) (Below.drew (Below.refl _ _)) (fun hHeld => ?_)
      generalize hwd : wr.drew = wd at hHeld ⊢
      clear hwd
      refine held_take (i := 0) (v := (.bool true)) rfl (by kernel_rfl) (by kernel_rfl) (by kernel_rfl) (fun _ _ _ h => h) (Or.inl ⟨by rfl, fun w' _ => by kernel_rfl⟩) hHeld ?_
      go_frame
      refine held_take (i := 1) (v := (.bool true)) rfl (by kernel_rfl) (by kernel_rfl) (by kernel_rfl) (fun _ _ _ h => h) (Or.inl ⟨by rfl, fun w' _ => by kernel_rfl⟩) hHeld ?_
      go_frame
      refine held_take (i := 2) (v := (.bool true)) rfl (by kernel_rfl) (by kernel_rfl) (by kernel_rfl) (fun _ _ _ h => h) (Or.inl ⟨by rfl, fun w' _ => by kernel_rfl⟩) hHeld ?_
      go_frame
      refine held_take (i := 3) (v := (.bool true)) rfl (by kernel_rfl) (by kernel_rfl) (by kernel_rfl) (fun _ _ _ h => h) (Or.inl ⟨by rfl, fun w' _ => by kernel_rfl⟩) hHeld ?_
      go_frame
      refine held_take (i := 4) (v := (.bool true)) rfl (by kernel_rfl) (by kernel_rfl) (by kernel_rfl) (fun _ _ _ h => h) (Or.inl ⟨by rfl, fun w' _ => by kernel_rfl⟩) hHeld ?_
      go_frame
      refine held_take (i := 5) (v := (.agg (R.map bV).toArray)) rfl (by kernel_rfl) (by kernel_rfl) (by kernel_rfl) (fun _ _ _ h => h) (yieldsIf_load_row (by rfl) 24 (.tmp 8) rfl g8 rfl 24 (R.map bV).toArray (0, 0) _ (fun w' hw' => row_below F8.out hw') Tryd.underlying24 rfl (by rw [HRS.out]; kernel_rfl)) hHeld ?_
      go_frame
      refine held_take (i := 6) (v := (.slice (some ⟨b, o, none⟩) n cap)) rfl (by kernel_rfl) (by kernel_rfl) (by kernel_rfl) (fun _ _ _ h => h) (Or.inl ⟨by rfl, fun w' _ => by kernel_rfl⟩) hHeld ?_
      go_frame
      refine wpAnyH_ready (rs := [7]) (by kernel_rfl) (by simp) (held_cons rfl (fun K hK => ?_) AllReadyH.nil)
      rw [if_pos (by rfl)]
      go_simp
      refine (root_v l R _ _ (HKR.out.below hHeld) (HL.out.below hHeld) HN60.out HR.out).mono ?_
      rintro e v1 ⟨rfl, bb⟩
      have hv1 := hHeld.trans (bb.mono hHeld.size)
      clear bb hHeld
      go_wp2_with fail
      refine hK.out _ _ hv1 (fun hHeld => ?_)
      clear hK K hv1
      refine wpAnyH_ready (rs := [8]) (by kernel_rfl) (by simp) (held_cons rfl (fun K hK => ?_) AllReadyH.nil)
      rw [if_pos (by rfl)]
      go_simp
      refine (same_v R R true HRL.out HRL.out (by simp) _).mono ?_
      rintro e v2 ⟨rfl, bb⟩
      have hv2 := hHeld.trans (bb.mono hHeld.size)
      clear bb hHeld
      go_wp2_with fail
      refine hK.out _ _ hv2 (fun hHeld => ?_)
      clear hK K hv2
      refine held_take (i := 9) (v := (.bool true)) rfl (by kernel_rfl) (by kernel_rfl) (by kernel_rfl) (fun _ _ _ h => h) (Or.inl ⟨by rfl, fun w' _ => by kernel_rfl⟩) hHeld ?_
      go_frame
      refine held_take (i := 10) (v := (.bool true)) rfl (by kernel_rfl) (by kernel_rfl) (by kernel_rfl) (fun _ _ _ h => h) (Or.inl ⟨by rfl, fun w' _ => by kernel_rfl⟩) hHeld ?_
      go_frame
      refine held_take (i := 11) (v := (.bool false)) rfl (by kernel_rfl) (by kernel_rfl) (by kernel_rfl) (fun _ _ _ h => h) (Or.inl ⟨by rfl, fun w' _ => by kernel_rfl⟩) hHeld ?_
      go_frame
      refine held_take (i := 12) (v := (.bool true)) rfl (by kernel_rfl) (by kernel_rfl) (by kernel_rfl) (fun _ _ _ h => h) (Or.inl ⟨by rfl, fun w' _ => by kernel_rfl⟩) hHeld ?_
      go_frame
      refine held_take (i := 13) (v := (.bool true)) rfl (by kernel_rfl) (by kernel_rfl) (by kernel_rfl) (fun _ _ _ h => h) (Or.inl ⟨by rfl, fun w' _ => by kernel_rfl⟩) hHeld ?_
      go_frame
      refine held_take (i := 14) (v := (.bool true)) rfl (by kernel_rfl) (by kernel_rfl) (by kernel_rfl) (fun _ _ _ h => h) (Or.inl ⟨by rfl, fun w' _ => by kernel_rfl⟩) hHeld ?_
      go_frame
      refine held_take (i := 15) (v := (.bool false)) rfl (by kernel_rfl) (by kernel_rfl) (by kernel_rfl) (fun _ _ _ h => h) (Or.inl ⟨by rfl, fun w' _ => by kernel_rfl⟩) hHeld ?_
      go_frame
      refine held_take (i := 16) (v := (.bool true)) rfl (by kernel_rfl) (by kernel_rfl) (by kernel_rfl) (fun _ _ _ h => h) (Or.inl ⟨by rfl, fun w' _ => by kernel_rfl⟩) hHeld ?_
      go_frame
      refine held_take (i := 17) (v := (.bool true)) rfl (by kernel_rfl) (by kernel_rfl) (by kernel_rfl) (fun _ _ _ h => h) (Or.inl ⟨by rfl, fun w' _ => by kernel_rfl⟩) hHeld ?_
      go_frame
      refine held_take (i := 18) (v := (.bool true)) rfl (by kernel_rfl) (by kernel_rfl) (by kernel_rfl) (fun _ _ _ h => h) (Or.inl ⟨by rfl, fun w' _ => by kernel_rfl⟩) hHeld ?_
      go_frame
      refine held_take (i := 19) (v := (.bool false)) rfl (by kernel_rfl) (by kernel_rfl) (by kernel_rfl) (fun _ _ _ h => h) (Or.inl ⟨by rfl, fun w' _ => by kernel_rfl⟩) hHeld ?_
      go_frame
      refine held_take (i := 20) (v := (.bool true)) rfl (by kernel_rfl) (by kernel_rfl) (by kernel_rfl) (fun _ _ _ h => h) (Or.inl ⟨by rfl, fun w' _ => by kernel_rfl⟩) hHeld ?_
      go_frame
      refine held_take (i := 21) (v := (.bool true)) rfl (by kernel_rfl) (by kernel_rfl) (by kernel_rfl) (fun _ _ _ h => h) (Or.inl ⟨by rfl, fun w' _ => by kernel_rfl⟩) hHeld ?_
      go_frame
      refine held_take (i := 22) (v := (.bool true)) rfl (by kernel_rfl) (by kernel_rfl) (by kernel_rfl) (fun _ _ _ h => h) (Or.inl ⟨by rfl, fun w' _ => by kernel_rfl⟩) hHeld ?_
      go_frame
      refine wpAnyH_done (by kernel_rfl) ?_ _
      have B9 := Lib.hid (B.out.trans (hHeld.mono B.out.size))
      clear hHeld
      go_wp2_with fail
      go_ret
      exact ⟨rfl, B9.out⟩
end Go.Proofs.YtaeebcedobkopaaDoor.Sha
