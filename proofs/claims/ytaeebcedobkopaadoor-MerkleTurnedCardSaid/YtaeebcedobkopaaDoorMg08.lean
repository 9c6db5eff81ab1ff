/-
  Texts of this proof joined into one file: MkOddWalk, MkPath, TxReadW, MkClimb0, MkClimb, MkClimbNo, MkCut. What each holds, and under which conditions, its own first sentence tells.
-/
import Derived.IntWalk
import Derived.Laws.ResultCell
import Derived.Test.YtaeebcedobkopaaDoorMg07
import Derived.Test.YtaeebcedobkopaaDoorMg04
import Derived.Test.YtaeebcedobkopaaDoorMg03
/-
  The statement on odd rows answers true. Nothing that was there turns. Conditions: digests of 32 bytes, the table is there.
-/
namespace Go.Proofs.YtaeebcedobkopaaDoor.Sha
open Go Go.RowKit
set_option maxHeartbeats 4000000 in
set_option maxRecDepth 100000 in
theorem merkleodd_main (l : List (List UInt8)) (v : Value) (w : World) (hl : HsAt w v l) (hm : l.length ≤ 9223372036854775807) (hk : KTab w) :
    Calls Tryd.prog 5 #[v] w fun e w' => e = .returned (.bool true) ∧ Below w.heap.size w w' := by
  obtain ⟨i0, hi, hz0, hz1, hz2⟩ := info_parts info_hash
  obtain ⟨sp, cap, rfl⟩ := hl.shape
  obtain ⟨n, hn⟩ : ∃ n, n = l.length := ⟨_, rfl⟩
  rw [← hn] at hl hm ⊢
  have HN := Lib.hid hn
  have HL0 := Lib.hid hl
  have HK := Lib.hid hk
  clear hl hn hk
  have n0 : 0 ≤ (n : Int) := by omega
  by_cases h31 : n > 31
  · have t1 : (n : Int) > 31 := by omega
    go_enter Tryd.func5, Tryd.ntmps5
    go_wp2_with (first | (go_at_call 8; refine (first6 w HK.out).mono ?_; rintro e wr ⟨rfl, hb1⟩; have B := Lib.hid hb1; have HKR := Lib.hid (HK.out.below hb1); have HL := Lib.hid (HL0.out.below hb1); clear hb1) | (go_at_call 14; refine (root_v [] zM _ _ HKR.out (HsAt.nil _ _ _) (by simp) (by rw [rootL_one _ _ (by simp)]; rfl)).mono ?_; rintro e w2 ⟨rfl, hb2⟩; have B2 := Lib.hid (B.out.trans (hb2.mono B.out.size)); clear hb2) | (go_at_call 13; refine (same_v zM zM true zM_length zM_length (by simp) _).mono ?_; rintro e w3 ⟨rfl, hb3⟩; have B3 := Lib.hid (B2.out.trans (hb3.mono B2.out.size)); clear hb3))
    go_ret
    exact ⟨rfl, B3.out⟩
  have t1 : ¬ (n : Int) > 31 := by omega
  by_cases h2 : n % 2 = 0
  · have t2 : ((n : Int) % 2 == 0) = true := by rw [beq_iff_eq]; omega
    go_enter Tryd.func5, Tryd.ntmps5
    go_wp2_with (first | (go_at_call 8; refine (first6 w HK.out).mono ?_; rintro e wr ⟨rfl, hb1⟩; have B := Lib.hid hb1; have HKR := Lib.hid (HK.out.below hb1); have HL := Lib.hid (HL0.out.below hb1); clear hb1) | (go_at_call 14; refine (root_v [] zM _ _ HKR.out (HsAt.nil _ _ _) (by simp) (by rw [rootL_one _ _ (by simp)]; rfl)).mono ?_; rintro e w2 ⟨rfl, hb2⟩; have B2 := Lib.hid (B.out.trans (hb2.mono B.out.size)); clear hb2) | (go_at_call 13; refine (same_v zM zM true zM_length zM_length (by simp) _).mono ?_; rintro e w3 ⟨rfl, hb3⟩; have B3 := Lib.hid (B2.out.trans (hb3.mono B2.out.size)); clear hb3))
    go_ret
    exact ⟨rfl, B3.out⟩
  have t2 : ((n : Int) % 2 == 0) = false := by rw [beq_eq_false_iff_ne]; omega
  by_cases h3 : n < 2
  · have t3 : (n : Int) < 2 := by omega
    go_enter Tryd.func5, Tryd.ntmps5
    go_wp2_with (first | (go_at_call 8; refine (first6 w HK.out).mono ?_; rintro e wr ⟨rfl, hb1⟩; have B := Lib.hid hb1; have HKR := Lib.hid (HK.out.below hb1); have HL := Lib.hid (HL0.out.below hb1); clear hb1) | (go_at_call 14; refine (root_v [] zM _ _ HKR.out (HsAt.nil _ _ _) (by simp) (by rw [rootL_one _ _ (by simp)]; rfl)).mono ?_; rintro e w2 ⟨rfl, hb2⟩; have B2 := Lib.hid (B.out.trans (hb2.mono B.out.size)); clear hb2) | (go_at_call 13; refine (same_v zM zM true zM_length zM_length (by simp) _).mono ?_; rintro e w3 ⟨rfl, hb3⟩; have B3 := Lib.hid (B2.out.trans (hb3.mono B2.out.size)); clear hb3))
    go_ret
    exact ⟨rfl, B3.out⟩
  have t3 : ¬ (n : Int) < 2 := by omega
  obtain ⟨d, hd⟩ : ∃ d, n = d + 1 := ⟨n - 1, by omega⟩
  obtain ⟨R, hR⟩ : ∃ R, R = rootL prH zM l := ⟨_, rfl⟩
  have HRL : Hid (R.length = 32) := by show _ = _; rw [hR]; exact rootL_len _ l rfl HL0.out.1
  obtain ⟨x, hx⟩ : ∃ x, x = l.getD d [] := ⟨_, rfl⟩
  have lx : x.length = 32 := by rw [hx]; exact HL0.out.1.get (by have := HN.out; omega)
  have LXL := Lib.hid lx
  have LX : Hid ((x.map bV).length = 32) := by show _ = _; rw [List.length_map, lx]
  have HRO : Hid (rootL prH zM (l ++ [x]) = R) := by
    show _ = _
    have hnn := HN.out
    rw [hx, getD_any (by omega), show d = l.length - 1 by omega, rootL_odd prH zM l (by omega) (by omega), hR]
  have HR : Hid (rootL prH zM l = R) := hR.symm
  have HN60 : Hid (l.length ≤ 1048576) := by show _ ≤ _; have := HN.out; omega
  have HN61 : Hid ((l ++ [x]).length ≤ 1048576) := by show _ ≤ _; rw [List.length_append, List.length_singleton]; have := HN.out; omega
  have wn : IntKind.i64.wrap ((n : Int) - 1) = (d : Int) := by rw [IntWalk.i64_in _ (by omega)]; omega
  have d0 : 0 ≤ (d : Int) := by omega
  have d1 : (d : Int) < (n : Int) := by omega
  obtain ⟨b, o, rfl, hbw, hg⟩ := HL0.out.get (by omega)
  have hX := hg d (by omega)
  rw [← hx] at hX
  have HX0 := Lib.hid hX
  clear hg hX hx lx hR hd h31 h2 h3
  go_enter Tryd.func5, Tryd.ntmps5
  go_wp2_with (go_at_call 8; refine (first6 w HK.out).mono ?_; rintro e wr ⟨rfl, hb1⟩; have B := Lib.hid hb1; have HKR := Lib.hid (HK.out.below hb1); have HL := Lib.hid (HL0.out.below hb1); clear hb1)
  have HX := Lib.hid (range_below HX0.out B.out)
  refine wp_region_held_drew (S := (fun w' => Below wr.heap.size wr w')) (by kernel_rfl) (Below.drew (Below.refl _ _)) (fun hHeld => ?_)
  generalize hwd : wr.drew = wd at hHeld ⊢
  clear hwd
  refine held_take (i := 0) (v := (.bool true)) rfl (by kernel_rfl) (by kernel_rfl) (by kernel_rfl) (fun _ _ _ h => h) (Or.inl ⟨by rfl, fun w' _ => by kernel_rfl⟩) hHeld ?_
  go_frame
  refine held_take (i := 1) (v := (.bool true)) rfl (by kernel_rfl) (by kernel_rfl) (by kernel_rfl) (fun _ _ _ h => h) (Or.inl ⟨by rfl, fun w' _ => by kernel_rfl⟩) hHeld ?_
  go_frame
  refine held_take (i := 2) (v := (.slice (some ⟨b, o, none⟩) n cap)) rfl (by kernel_rfl) (by kernel_rfl) (by kernel_rfl) (fun _ _ _ h => h) (Or.inl ⟨by rfl, fun w' _ => by kernel_rfl⟩) hHeld ?_
  go_frame
  refine held_take (i := 4) (v := (.slice (some ⟨b, o, none⟩) n cap)) rfl (by kernel_rfl) (by kernel_rfl) (by kernel_rfl) (fun _ _ _ h => h) (Or.inl ⟨by rfl, fun w' _ => by kernel_rfl⟩) hHeld ?_
  go_frame
  refine held_take (i := 6) (v := (.slice (some ⟨b, o, none⟩) n cap)) rfl (by kernel_rfl) (by kernel_rfl) (by kernel_rfl) (fun _ _ _ h => h) (Or.inl ⟨by rfl, fun w' _ => by kernel_rfl⟩) hHeld ?_
  go_frame
  refine held_take (i := 7) (v := (.int .i64 (n : Int))) rfl (by kernel_rfl) (by kernel_rfl) (by kernel_rfl) (fun _ _ _ h => h) (Or.inl ⟨by rfl, fun w' _ => by kernel_rfl⟩) hHeld ?_
  go_frame
  refine held_take (i := 8) (v := (.int .i64 (d : Int))) rfl (by kernel_rfl) (by kernel_rfl) (by kernel_rfl) (fun _ _ _ h => h) (Or.inl ⟨by rfl, fun w' _ => by go_simp⟩) hHeld ?_
  go_frame
  refine held_take (i := 9) (v := (.pointer (some ⟨b, o + d * 32, none⟩))) rfl (by kernel_rfl) (by kernel_rfl) (by kernel_rfl) (fun _ _ _ h => h) (Or.inl ⟨by rfl, fun w' _ => by go_simp⟩) hHeld ?_
  go_frame
  refine held_take (i := 10) (v := (.agg (x.map bV).toArray)) rfl (by kernel_rfl) (by kernel_rfl) (by kernel_rfl) (fun _ _ _ h => h) (Sha.yieldsIf_load_mid (by rfl) 24 (.tmp 36) rfl b (o + d * 32) rfl (x.map bV) _ (fun w' hw' => range_below HX.out hw') Tryd.underlying24 rfl (by rw [LX.out]; kernel_rfl)) hHeld ?_
  go_frame
  refine wpAnyH_ready (rs := [3, 11]) (by kernel_rfl) (by simp) (held_cons rfl (fun K hK => ?_) (held_cons rfl (fun K hK => ?_) AllReadyH.nil))
  · skip
    rw [if_pos (by rfl)]
    go_simp
    refine (root_v l R _ _ (HKR.out.below hHeld) (HL.out.below hHeld) HN60.out HR.out).mono ?_
    rintro e v1 ⟨rfl, bb⟩
    have hv1 := hHeld.trans (bb.mono hHeld.size)
    clear bb hHeld
    go_wp2_with fail
    refine hK.out _ _ hv1 (fun hHeld => ?_)
    clear hK K hv1
    refine wpAnyH_ready (rs := [5, 11]) (by kernel_rfl) (by simp) (held_cons rfl (fun K hK => ?_) (held_cons rfl (fun K hK => ?_) AllReadyH.nil))
    · skip
      rw [if_pos (by rfl)]
      go_simp
      refine (hashes_v l _ _ (HL.out.below hHeld) HN60.out).mono ?_
      rintro e v2 ⟨vo, rfl, ho, bb⟩
      have HO := Lib.hid (ho.base hHeld.size)
      clear ho
      have hv2 := hHeld.trans (bb.mono hHeld.size)
      clear bb hHeld
      go_wp2_with fail
      refine hK.out _ _ hv2 (fun hHeld => ?_)
      clear hK K hv2
      refine wpAnyH_ready (rs := [11]) (by kernel_rfl) (by simp) (held_cons rfl (fun K hK => ?_) AllReadyH.nil)
      rw [if_pos (by rfl)]
      refine wp_slice_one 22 24 (.tmp 37) rfl (x.map bV) rfl Tryd.underlying22 i0 _ hi hz0 (by rw [hz1, LX.out]) (by rw [LX.out]; omega) (by rw [LX.out]; omega) ?_
      have nf := heap_alloc_new v2 (.cells (x.map bV).toArray 24 (0, 0))
      have bb := (Below.refl v2.heap.size v2).alloc (Nat.le_refl _) (.cells (x.map bV).toArray 24 (0, 0))
      obtain ⟨gv3, hgv3⟩ : ∃ g, g = v2.heap.size := ⟨_, rfl⟩
      generalize hqv3 : World.alloc _ _ = v3
      have ev3 : v2.alloc (.cells (x.map bV).toArray 24 (0, 0)) = v3 := hqv3
      rw [ev3] at nf bb
      rw [← hgv3] at nf ⊢
      have NF := Lib.hid nf
      have HO := Lib.hid (HO.out.keep bb)
      have hv3 := hHeld.trans (bb.mono hHeld.size)
      clear nf bb hqv3 ev3 hgv3 hHeld
      go_frame
      refine hK.out _ _ hv3 (fun hHeld => ?_)
      clear hK K hv3
      refine wpAnyH_ready (rs := [12]) (by kernel_rfl) (by simp) (held_cons rfl (fun K hK => ?_) AllReadyH.nil)
      rw [if_pos (by rfl)]
      refine wp_append_row v3 (.tmp 32) (.tmp 38) 22 rfl wr.heap.size 24 i0 (.agg (List.replicate 32 (bV 0)).toArray) 32 32 Tryd.underlying22 hi hz0 hz1 hz2 (by kernel_rfl) (by decide) vo _ (hsL l) rfl HO.out.1 ⟨gv3, 0, none⟩ 1 1 (x.map bV) rfl (by rw [LX.out]) (hs_one NF.out) (bV_one' _) (by have := HN60.out; unfold maxLen; omega) (by have := HN60.out; omega) hHeld.size ?_
      intro xv4 v4 q1 q2 _
      have HO2 := Lib.hid (HsOwn.push (base := wr.heap.size) HO.out.2 LXL.out q1)
      have hv4 := own_grown hHeld (Nat.le_refl _) hHeld.size HO.out.1 q2
      clear q1 q2 hHeld
      go_frame
      refine hK.out _ _ hv4 (fun hHeld => ?_)
      clear hK K hv4
      refine wpAnyH_ready (rs := [13]) (by kernel_rfl) (by simp) (held_cons rfl (fun K hK => ?_) AllReadyH.nil)
      rw [if_pos (by rfl)]
      go_simp
      refine (root_v (l ++ [x]) R _ _ (HKR.out.below hHeld) HO2.out.at HN61.out HRO.out).mono ?_
      rintro e v5 ⟨rfl, bb⟩
      have HO2 := Lib.hid (HO2.out.keep bb)
      have hv5 := hHeld.trans (bb.mono hHeld.size)
      clear bb hHeld
      go_wp2_with fail
      refine hK.out _ _ hv5 (fun hHeld => ?_)
      clear hK K hv5
      refine wpAnyH_ready (rs := [14]) (by kernel_rfl) (by simp) (held_cons rfl (fun K hK => ?_) AllReadyH.nil)
      rw [if_pos (by rfl)]
      go_simp
      refine (same_v R R true HRL.out HRL.out (by simp) _).mono ?_
      rintro e v6 ⟨rfl, bb⟩
      have HO2 := Lib.hid (HO2.out.keep bb)
      have hv6 := hHeld.trans (bb.mono hHeld.size)
      clear bb hHeld
      go_wp2_with fail
      refine hK.out _ _ hv6 (fun hHeld => ?_)
      clear hK K hv6
      refine held_take (i := 15) (v := (.bool true)) rfl (by kernel_rfl) (by kernel_rfl) (by kernel_rfl) (fun _ _ _ h => h) (Or.inl ⟨by rfl, fun w' _ => by kernel_rfl⟩) hHeld ?_
      go_frame
      refine held_take (i := 16) (v := (.bool true)) rfl (by kernel_rfl) (by kernel_rfl) (by kernel_rfl) (fun _ _ _ h => h) (Or.inl ⟨by rfl, fun w' _ => by kernel_rfl⟩) hHeld ?_
      go_frame
      refine wpAnyH_done (by kernel_rfl) ?_ _
      have B9 := Lib.hid (B.out.trans (hHeld.mono B.out.size))
      clear hHeld
      go_wp2_with fail
      go_ret
      exact ⟨rfl, B9.out⟩
    · skip
      rw [if_pos (by rfl)]
      refine wp_slice_one 22 24 (.tmp 37) rfl (x.map bV) rfl Tryd.underlying22 i0 _ hi hz0 (by rw [hz1, LX.out]) (by rw [LX.out]; omega) (by rw [LX.out]; omega) ?_
      have nf := heap_alloc_new v1 (.cells (x.map bV).toArray 24 (0, 0))
      have bb := (Below.refl v1.heap.size v1).alloc (Nat.le_refl _) (.cells (x.map bV).toArray 24 (0, 0))
      obtain ⟨gv7, hgv7⟩ : ∃ g, g = v1.heap.size := ⟨_, rfl⟩
      generalize hqv7 : World.alloc _ _ = v7
      have ev7 : v1.alloc (.cells (x.map bV).toArray 24 (0, 0)) = v7 := hqv7
      rw [ev7] at nf bb
      rw [← hgv7] at nf ⊢
      have NF := Lib.hid nf
      have hv7 := hHeld.trans (bb.mono hHeld.size)
      clear nf bb hqv7 ev7 hgv7 hHeld
      go_frame
      refine hK.out _ _ hv7 (fun hHeld => ?_)
      clear hK K hv7
      refine wpAnyH_ready (rs := [5]) (by kernel_rfl) (by simp) (held_cons rfl (fun K hK => ?_) AllReadyH.nil)
      rw [if_pos (by rfl)]
      go_simp
      refine (hashes_v l _ _ (HL.out.below hHeld) HN60.out).mono ?_
      rintro e v8 ⟨vo, rfl, ho, bb⟩
      have HO := Lib.hid (ho.base hHeld.size)
      clear ho
      have NF := Lib.hid (row_below NF.out bb)
      have hv8 := hHeld.trans (bb.mono hHeld.size)
      clear bb hHeld
      go_wp2_with fail
      refine hK.out _ _ hv8 (fun hHeld => ?_)
      clear hK K hv8
      refine wpAnyH_ready (rs := [12]) (by kernel_rfl) (by simp) (held_cons rfl (fun K hK => ?_) AllReadyH.nil)
      rw [if_pos (by rfl)]
      refine wp_append_row v8 (.tmp 32) (.tmp 38) 22 rfl wr.heap.size 24 i0 (.agg (List.replicate 32 (bV 0)).toArray) 32 32 Tryd.underlying22 hi hz0 hz1 hz2 (by kernel_rfl) (by decide) vo _ (hsL l) rfl HO.out.1 ⟨gv7, 0, none⟩ 1 1 (x.map bV) rfl (by rw [LX.out]) (hs_one NF.out) (bV_one' _) (by have := HN60.out; unfold maxLen; omega) (by have := HN60.out; omega) hHeld.size ?_
      intro xv9 v9 q1 q2 _
      have HO2 := Lib.hid (HsOwn.push (base := wr.heap.size) HO.out.2 LXL.out q1)
      have hv9 := own_grown hHeld (Nat.le_refl _) hHeld.size HO.out.1 q2
      clear q1 q2 hHeld
      go_frame
      refine hK.out _ _ hv9 (fun hHeld => ?_)
      clear hK K hv9
      refine wpAnyH_ready (rs := [13]) (by kernel_rfl) (by simp) (held_cons rfl (fun K hK => ?_) AllReadyH.nil)
      rw [if_pos (by rfl)]
      go_simp
      refine (root_v (l ++ [x]) R _ _ (HKR.out.below hHeld) HO2.out.at HN61.out HRO.out).mono ?_
      rintro e v10 ⟨rfl, bb⟩
      have HO2 := Lib.hid (HO2.out.keep bb)
      have hv10 := hHeld.trans (bb.mono hHeld.size)
      clear bb hHeld
      go_wp2_with fail
      refine hK.out _ _ hv10 (fun hHeld => ?_)
      clear hK K hv10
      refine wpAnyH_ready (rs := [14]) (by kernel_rfl) (by simp) (held_cons rfl (fun K hK => ?_) AllReadyH.nil)
      rw [if_pos (by rfl)]
      go_simp
      refine (same_v R R true HRL.out HRL.out (by simp) _).mono ?_
      rintro e v11 ⟨rfl, bb⟩
      have HO2 := Lib.hid (HO2.out.keep bb)
      have hv11 := hHeld.trans (bb.mono hHeld.size)
      clear bb hHeld
      go_wp2_with fail
      refine hK.out _ _ hv11 (fun hHeld => ?_)
      clear hK K hv11
      refine held_take (i := 15) (v := (.bool true)) rfl (by kernel_rfl) (by kernel_rfl) (by kernel_rfl) (fun _ _ _ h => h) (Or.inl ⟨by rfl, fun w' _ => by kernel_rfl⟩) hHeld ?_
      go_frame
      refine held_take (i := 16) (v := (.bool true)) rfl (by kernel_rfl) (by kernel_rfl) (by kernel_rfl) (fun _ _ _ h => h) (Or.inl ⟨by rfl, fun w' _ => by kernel_rfl⟩) hHeld ?_
      go_frame
      refine wpAnyH_done (by kernel_rfl) ?_ _
      have B9 := Lib.hid (B.out.trans (hHeld.mono B.out.size))
      clear hHeld
      go_wp2_with fail
      go_ret
      exact ⟨rfl, B9.out⟩
  · skip
    rw [if_pos (by rfl)]
    refine wp_slice_one 22 24 (.tmp 37) rfl (x.map bV) rfl Tryd.underlying22 i0 _ hi hz0 (by rw [hz1, LX.out]) (by rw [LX.out]; omega) (by rw [LX.out]; omega) ?_
    have nf := heap_alloc_new wd (.cells (x.map bV).toArray 24 (0, 0))
    have bb := (Below.refl wd.heap.size wd).alloc (Nat.le_refl _) (.cells (x.map bV).toArray 24 (0, 0))
    obtain ⟨gv12, hgv12⟩ : ∃ g, g = wd.heap.size := ⟨_, rfl⟩
    generalize hqv12 : World.alloc _ _ = v12
    have ev12 : wd.alloc (.cells (x.map bV).toArray 24 (0, 0)) = v12 := hqv12
    rw [ev12] at nf bb
    rw [← hgv12] at nf ⊢
    have NF := Lib.hid nf
    have hv12 := hHeld.trans (bb.mono hHeld.size)
    clear nf bb hqv12 ev12 hgv12 hHeld
    go_frame
    refine hK.out _ _ hv12 (fun hHeld => ?_)
    clear hK K hv12
    refine wpAnyH_ready (rs := [3]) (by kernel_rfl) (by simp) (held_cons rfl (fun K hK => ?_) AllReadyH.nil)
    rw [if_pos (by rfl)]
    go_simp
    refine (root_v l R _ _ (HKR.out.below hHeld) (HL.out.below hHeld) HN60.out HR.out).mono ?_
    rintro e v13 ⟨rfl, bb⟩
    have NF := Lib.hid (row_below NF.out bb)
    have hv13 := hHeld.trans (bb.mono hHeld.size)
    clear bb hHeld
    go_wp2_with fail
    refine hK.out _ _ hv13 (fun hHeld => ?_)
    clear hK K hv13
    refine wpAnyH_ready (rs := [5]) (by kernel_rfl) (by simp) (held_cons rfl (fun K hK => ?_) AllReadyH.nil)
    rw [if_pos (by rfl)]
    go_simp
    refine (hashes_v l _ _ (HL.out.below hHeld) HN60.out).mono ?_
    rintro e v14 ⟨vo, rfl, ho, bb⟩
    have HO := Lib.hid (ho.base hHeld.size)
    clear ho
    have NF := Lib.hid (row_below NF.out bb)
    have hv14 := hHeld.trans (bb.mono hHeld.size)
    clear bb hHeld
    go_wp2_with fail
    refine hK.out _ _ hv14 (fun hHeld => ?_)
    clear hK K hv14
    refine wpAnyH_ready (rs := [12]) (by kernel_rfl) (by simp) (held_cons rfl (fun K hK => ?_) AllReadyH.nil)
    rw [if_pos (by rfl)]
    refine wp_append_row v14 (.tmp 32) (.tmp 38) 22 rfl wr.heap.size 24 i0 (.agg (List.replicate 32 (bV 0)).toArray) 32 32 Tryd.underlying22 hi hz0 hz1 hz2 (by kernel_rfl) (by decide) vo _ (hsL l) rfl HO.out.1 ⟨gv12, 0, none⟩ 1 1 (x.map bV) rfl (by rw [LX.out]) (hs_one NF.out) (bV_one' _) (by have := HN60.out; unfold maxLen; omega) (by have := HN60.out; omega) hHeld.size ?_
    intro xv15 v15 q1 q2 _
    have HO2 := Lib.hid (HsOwn.push (base := wr.heap.size) HO.out.2 LXL.out q1)
    have hv15 := own_grown hHeld (Nat.le_refl _) hHeld.size HO.out.1 q2
    clear q1 q2 hHeld
    go_frame
    refine hK.out _ _ hv15 (fun hHeld => ?_)
    clear hK K hv15
    refine wpAnyH_ready (rs := [13]) (by kernel_rfl) (by simp) (held_cons rfl (fun K hK => ?_) AllReadyH.nil)
    rw [if_pos (by rfl)]
    go_simp
    refine (root_v (l ++ [x]) R _ _ (HKR.out.below hHeld) HO2.out.at HN61.out HRO.out).mono ?_
    rintro e v16 ⟨rfl, bb⟩
    have HO2 := Lib.hid (HO2.out.keep bb)
    have hv16 := hHeld.trans (bb.mono hHeld.size)
    clear bb hHeld
    go_wp2_with fail
    refine hK.out _ _ hv16 (fun hHeld => ?_)
    clear hK K hv16
    refine wpAnyH_ready (rs := [14]) (by kernel_rfl) (by simp) (held_cons rfl (fun K hK => ?_) AllReadyH.nil)
    rw [if_pos (by rfl)]
    go_simp
    refine (same_v R R true HRL.out HRL.out (by simp) _).mono ?_
    rintro e v17 ⟨rfl, bb⟩
    have HO2 := Lib.hid (HO2.out.keep bb)
    have hv17 := hHeld.trans (bb.mono hHeld.size)
    clear bb hHeld
    go_wp2_with fail
    refine hK.out _ _ hv17 (fun hHeld => ?_)
    clear hK K hv17
    refine held_take (i := 15) (v := (.bool true)) rfl (by kernel_rfl) (by kernel_rfl) (by kernel_rfl) (fun _ _ _ h => h) (Or.inl ⟨by rfl, fun w' _ => by kernel_rfl⟩) hHeld ?_
    go_frame
    refine held_take (i := 16) (v := (.bool true)) rfl (by kernel_rfl) (by kernel_rfl) (by kernel_rfl) (fun _ _ _ h => h) (Or.inl ⟨by rfl, fun w' _ => by kernel_rfl⟩) hHeld ?_
    go_frame
    refine wpAnyH_done (by kernel_rfl) ?_ _
    have B9 := Lib.hid (B.out.trans (hHeld.mono B.out.size))
    clear hHeld
    go_wp2_with fail
    go_ret
    exact ⟨rfl, B9.out⟩
end Go.Proofs.YtaeebcedobkopaaDoor.Sha

/-
  merkle.Path answers the way from below. New memory; nothing that was there turns. Conditions: the digests lie where the slice says, the table is there; at most 2^20 of them.
-/
namespace Go.Proofs.YtaeebcedobkopaaDoor.Sha
open Go Go.RowKit
set_option maxHeartbeats 4000000 in
set_option maxRecDepth 100000 in
theorem path_in (k0 : Nat) (l : List (List UInt8)) (sp : Option Addr) (n cap : Nat) (w : World) (hk : KTab w) (hl : HsAt w (.slice sp n cap) l) (hn : n ≤ 1048576) (hkn : k0 < n) :
    Calls Tryd.prog 9 #[.int .i64 k0, .slice sp n cap] w fun e w' => ∃ v, e = .returned (.tuple #[v, .bool true]) ∧ HsOwn w.heap.size w' v (pathL prH zM k0 l) ∧ Below w.heap.size w w' := by
  obtain ⟨i0, hi, hz0, hz1, hz2⟩ := info_parts info_hash
  have hpl : (pathL prH zM k0 l).length ≤ 20 := by
    rw [pathL_length prH zM _ l k0 rfl, ← hl.len.1]
    exact rowsN_le n 20 (by omega)
  have HN := Lib.hid hl.len.1
  obtain ⟨P, hP⟩ : ∃ P, P = pathL prH zM k0 l := ⟨_, rfl⟩
  rw [← hP] at hpl ⊢
  have HPP := Lib.hid hP
  have HPL := Lib.hid hpl
  have HL0 := Lib.hid hl
  have HK := Lib.hid hk
  have s0 : ¬ (k0 : Int) < 0 := by omega
  have s1 : ¬ (k0 : Int) ≥ (n : Int) := by omega
  clear hl hP hpl hk
  go_enter Tryd.func9, Tryd.ntmps9
  go_wp2_with fail
  go_loopw [0, 1, 6] (fun va vl vp wr => pathInv P w va vl vp wr) (fun _ vl _ _ => slLen vl)
  case atStart => exact ⟨k0, l, [], _, rfl, rfl, HL0.out, by rw [← HN.out]; exact hkn, by rw [← HN.out]; exact hn, HPP.out.symm, HsOwn.nil _ _, Off.none _, Below.refl _ _⟩
  case round =>
    clear HL0 HN HPP s0 s1
    obtain ⟨k, l', done, vb, rfl, rfl, hl, hkm, hm2, hd, ho, hof, hb⟩ := hrel
    obtain ⟨sp', cap', rfl⟩ := hl.shape
    obtain ⟨m, hm⟩ : ∃ m, m = l'.length := ⟨_, rfl⟩
    rw [← hm] at hl hkm hm2 hof ⊢
    have HL := Lib.hid hl
    have HM := Lib.hid hm
    have HD := Lib.hid hd
    have HO := Lib.hid ho
    have OF := Lib.hid hof
    have B := Lib.hid hb
    have HKM := Lib.hid hkm
    have k00 : 0 ≤ (k : Int) := by omega
    clear hl hm hd ho hof hb
    skip
    by_cases h1m : 1 < m
    · have t1 : (m : Int) > 1 := by omega
      obtain ⟨b, o, rfl, hbw, hg⟩ := HL.out.get (by omega)
      obtain ⟨p, hp⟩ : ∃ p, p = otherN k m := ⟨_, rfl⟩
      have hpm : p < m := by rw [hp]; exact otherN_lt hkm
      obtain ⟨x, hx⟩ : ∃ x, x = l'.getD p [] := ⟨_, rfl⟩
      have HX := Lib.hid (hg p hpm)
      rw [← hx] at HX
      have lx : x.length = 32 := by rw [hx]; exact HL.out.1.get (by have := HM.out; omega)
      have LXL := Lib.hid lx
      have LX : Hid ((x.map bV).length = 32) := by show _ = _; rw [List.length_map, lx]
      have he : (done ++ [x]) ++ pathL prH zM (k / 2) (rowL prH l') = P := by
        have h := HD.out
        rw [pathL_more prH zM k (by rw [← HM.out]; exact h1m), ← HM.out, ← hp, ← getD_any (by rw [← HM.out]; exact hpm), ← hx] at h
        rw [List.append_assoc]
        exact h
      have HE := Lib.hid he
      have hdl : done.length + 1 ≤ 20 := by
        have h := congrArg List.length he
        rw [List.length_append, List.length_append, List.length_singleton] at h
        have := HPL.out
        omega
      have HDL := Lib.hid hdl
      have HP := Lib.hid hp
      have p0 : 0 ≤ (p : Int) := by omega
      have q0 : (p : Int) < (m : Int) := by omega
      clear hg hp hx lx he hdl
      go_wp2_with (first | (go_at_call 19; refine (partner_any k m HKM.out (by omega) _).mono ?_; rintro e w' ⟨rfl, rfl⟩; rw [← HP.out]) | ((with_reducible show wpList _ _ _ _ _ _); first | (refine wpList_load_mid rfl 24 (.tmp 24) rfl b (o + p * 32) rfl (x.map bV) _ HX.out Tryd.underlying24 rfl (by rw [LX.out]; kernel_rfl) ?_; go_frame) | (refine wpList_slice_one rfl 22 24 (.tmp 25) rfl (x.map bV) rfl Tryd.underlying22 i0 _ hi hz0 (by rw [hz1, LX.out]) (by rw [LX.out]; omega) (by rw [LX.out]; omega) ?_; have nf := heap_alloc_new wr (.cells (x.map bV).toArray 24 (0, 0)); have bb := (Below.refl wr.heap.size wr).alloc (Nat.le_refl _) (.cells (x.map bV).toArray 24 (0, 0)); obtain ⟨gn, hgn⟩ : ∃ gn, gn = wr.heap.size := ⟨_, rfl⟩; generalize hw2 : World.alloc _ _ = w2; have e2 : wr.alloc (.cells (x.map bV).toArray 24 (0, 0)) = w2 := hw2; rw [e2] at nf bb; rw [← hgn] at nf ⊢; have NF := Lib.hid nf; have HO2 := Lib.hid (HO.out.keep bb); have HL2 := Lib.hid (HL.out.below bb); have B2 := Lib.hid (B.out.trans (bb.mono B.out.size)); clear nf bb hw2 e2 hgn; go_frame)) | (at_builtin; refine wpList_append_own_at _ rfl _ _ 22 rfl w.heap.size 24 i0 (.agg (List.replicate 32 (bV 0)).toArray) 32 32 Tryd.underlying22 hi hz0 hz1 hz2 (by kernel_rfl) (by decide) vb _ (hsL done) rfl HO2.out.1 ⟨gn, 0, none⟩ 1 1 (x.map bV) rfl (by rw [LX.out]) (hs_one NF.out) (bV_one' _) (by have := HDL.out; unfold maxLen; omega) (by have := HDL.out; omega) B2.out.size ?_; intro v3 w3 q1 q2 _ q4; have HO3 := Lib.hid (HsOwn.push (base := w.heap.size) HO2.out.2 LXL.out q1); have HL3 := Lib.hid (HL2.out.off OF.out q2); have B3 := Lib.hid (own_grown B2.out (Nat.le_refl _) B2.out.size HO2.out.1 q2); clear q1 q2 q4; go_frame))
      refine (row_above l' _ m cap' _ (HK.out.below B3.out) HL3.out hm2).mono ?_
      rintro e w4 ⟨v4, rfl, ho, hb4⟩
      obtain ⟨sp4, cap4, rfl⟩ := ho.at.shape
      obtain ⟨m4, hm4⟩ : ∃ m4, m4 = (rowL prH l').length := ⟨_, rfl⟩
      have hm5 : m4 = (m + 1) / 2 := by rw [hm4, rowL_length, ← HM.out]
      have HO4 := Lib.hid ho
      have HO5 := Lib.hid (HO3.out.keep hb4)
      have OF4 := Lib.hid (off_new (u := v3) ho (HO3.out.lt))
      rw [← hm4] at HO4 OF4 ⊢
      have HM4 := Lib.hid hm4
      have B4 := Lib.hid (B3.out.trans (hb4.mono B3.out.size))
      have hk2 : k / 2 < m4 := by omega
      have hm6 : m4 < m := by omega
      clear ho hm4 hb4 hm5
      go_wp2_with fail
      go_roundw
      case rel => exact ⟨k / 2, rowL prH l', done ++ [x], _, rfl, (congrArg (Value.int .i64) (by omega)), HO4.out.at, by rw [← HM4.out]; exact hk2, by rw [← HM4.out]; omega, HE.out, HO5.out, OF4.out, B4.out⟩
      case measure => exact hm6
    · have t1 : ¬ (m : Int) > 1 := by omega
      have HF : Hid (HsOwn w.heap.size wr vb P) := by
        have h := HD.out
        rw [pathL_one prH zM k (by rw [← HM.out]; omega), List.append_nil] at h
        rw [← h]
        exact HO.out
      go_wp2_with fail
      go_ret2
      exact ⟨_, rfl, HF.out, B.out⟩
set_option maxRecDepth 100000 in
theorem path_out (x : Int) (sp : Option Addr) (n cap : Nat) (w : World) (hx : x < 0 ∨ (n : Int) ≤ x) :
    Calls Tryd.prog 9 #[.int .i64 x, .slice sp n cap] w fun e w' => e = .returned (.tuple #[.slice none 0 0, .bool false]) ∧ w = w' := by
  rcases Int.lt_or_le x 0 with h | h
  · clear hx
    go_enter Tryd.func9, Tryd.ntmps9
    go_wp2_with fail
    go_ret2
    exact ⟨rfl, rfl⟩
  · have h2 : x ≥ (n : Int) := by omega
    have h3 : ¬ x < 0 := by omega
    clear hx
    go_enter Tryd.func9, Tryd.ntmps9
    go_wp2_with fail
    go_ret2
    exact ⟨rfl, rfl⟩
end Go.Proofs.YtaeebcedobkopaaDoor.Sha

/-
  Package tx reads a transaction out of bytes. Nothing that was there turns. Conditions: the bytes lie where the slice says; the errors are there.
-/
namespace Go.Proofs.YtaeebcedobkopaaDoor.Sha
open Go Go.RowKit
/-- What a Reader's bytes are as a transaction. -/
structure TakeIs (bs : List UInt8) (t : TTx) (b : List UInt8) (d : Nat) : Prop where
  eq : takeTx bs 0 = (t, b, d)
theorem results_row_tmp {P : Program} {fn : Func} {p u : Tmp} {ty : TypeId} (h : fn.results = #[.cell p ty, .tmp u]) (tmps : Array Value) (w : World) (g : Nat) (t : TypeId) (cs : Array Value) (fr : Nat × Nat) (d : TypeDesc)
    (hx : tmps.getD p undef = .pointer (some ⟨g, 0, none⟩)) (hg : w.heap[g]? = some (.cells cs t fr)) (hu : P.underlying ty = some d) (hd : (match d with | .struct _ | .array _ _ => true | _ => false) = true) (hi : (P.info? ty).map (·.size) = some cs.size) :
    (results fn tmps).run P w = .ok (.tuple #[.agg cs, tmps.getD u undef]) w := by
  rw [results_cell_tmp h, hx]
  simp [asAddr, Result.andThen, run_loadVar_row (P := P) w g t ty cs fr d hg hu hd hi]
end Go.Proofs.YtaeebcedobkopaaDoor.Sha

/-
  A whole box written, the new world hidden; what a loop that climbs keeps. No conditions.
-/
namespace Go.Proofs.YtaeebcedobkopaaDoor.Sha
open Go Go.RowKit
section
variable {P : Program}
theorem wpList_store_whole {ops : Array Oper} {rest : List Oper} {op : Oper} {a : Act} {w : World} {Q : Exit → Act → World → Prop} (hgd : op.guard = none) (ty : TypeId) (x y : Operand) (ho : op.op = .store ty x y)
    (g : Nat) (old new : List Value) (T : TypeId) (hx : a.eval x = .pointer (some ⟨g, 0, none⟩)) (hy : a.eval y = .agg new.toArray) (hlen : old.length = new.length) (hrow : w.heap[g]? = some (.cells old.toArray T (0, 0)))
    (hi : (P.info? ty).map (·.size) = some new.length) (h1 : new.toArray.all (·.oneCell') = true)
    (h : ∀ w', w'.heap[g]? = some (.cells new.toArray T (0, 0)) → w.grownBy w' (some g) → wpList P ops Q rest (a.put op.dst undef) w') : wpList P ops Q (op :: rest) a w :=
  wpList_store_row hgd ty x y ho g new.toArray hx hy T old.toArray hrow (by simpa using hi) (by simpa using hlen) h1 (h _ (setRow_heap _ _ _ _ _ _ hrow) (setRow_grown _))
theorem wp_store_whole {op : Oper} {a : Act} {w : World} {K : Act → World → Prop} {Q : Exit → Act → World → Prop} (ty : TypeId) (x y : Operand) (ho : op.op = .store ty x y)
    (g : Nat) (old new : List Value) (T : TypeId) (hx : a.eval x = .pointer (some ⟨g, 0, none⟩)) (hy : a.eval y = .agg new.toArray) (hlen : old.length = new.length) (hrow : w.heap[g]? = some (.cells old.toArray T (0, 0)))
    (hi : (P.info? ty).map (·.size) = some new.length) (h1 : new.toArray.all (·.oneCell') = true)
    (h : ∀ w', w'.heap[g]? = some (.cells new.toArray T (0, 0)) → w.grownBy w' (some g) → K (a.put op.dst undef) w') : op.wp P a w K Q :=
  wp_store_row ty x y ho g new.toArray hx hy T old.toArray hrow (by simpa using hi) (by simpa using hlen) h1 (h _ (setRow_heap _ _ _ _ _ _ hrow) (setRow_grown _))
end
/-- Two boxes. -/
theorem boxes_two (w : World) (x y : Array Value) (T : TypeId) :
    Below w.heap.size w ((w.alloc (.cells x T (0, 0))).alloc (.cells y T (0, 0)))
    ∧ ((w.alloc (.cells x T (0, 0))).alloc (.cells y T (0, 0))).heap[w.heap.size]? = some (.cells x T (0, 0))
    ∧ ((w.alloc (.cells x T (0, 0))).alloc (.cells y T (0, 0))).heap[w.heap.size + 1]? = some (.cells y T (0, 0)) := by
  refine ⟨((Below.refl _ _).alloc (Nat.le_refl _) _).alloc (by simp) _, ?_, ?_⟩
  · have h1 := heap_alloc_new w (.cells x T (0, 0))
    exact row_below h1 ((Below.refl _ _).alloc (Nat.le_refl _) (.cells y T (0, 0)))
  · have h1 := heap_alloc_new (w.alloc (.cells x T (0, 0))) (.cells y T (0, 0))
    rw [World.size_alloc] at h1
    exact h1
/-- Where the leaf, the answer lie. -/
structure ClAt (w : World) (g : Nat) (lf : List UInt8) (wr : World) : Prop where
  leaf : wr.heap[g]? = some (.cells (lf.map bV).toArray 24 (0, 0))
  zero : wr.heap[g + 1]? = some (.cells (zM.map bV).toArray 24 (0, 0))
  low : Below w.heap.size w wr
  lo : w.heap.size ≤ g
theorem ClAt.below {w : World} {g : Nat} {lf : List UInt8} {wr w' : World} (h : ClAt w g lf wr) (hb : Below wr.heap.size wr w') : ClAt w g lf w' :=
  ⟨row_below h.leaf hb, row_below h.zero hb, h.low.trans (hb.mono h.low.size), h.lo⟩
theorem ClAt.turn {w : World} {g : Nat} {lf lf' : List UInt8} {wr w' : World} (h : ClAt w g lf wr) (hn : w'.heap[g]? = some (.cells (lf'.map bV).toArray 24 (0, 0))) (hg : wr.grownBy w' (some g)) : ClAt w g lf' w' :=
  ⟨hn, row_far h.zero hg (fun e => by have := Option.some.inj e; omega), h.low.grown hg h.low.size (fun k hk => by cases hk; exact h.lo), h.lo⟩
def climbInv (R : List UInt8) (p : List (List UInt8)) (w : World) (g : Nat) (va vi : Value) (wr : World) : Prop :=
  ∃ (k j : Nat) (lf : List UInt8), vi = .int .i64 j ∧ va = .int .i64 k ∧ j ≤ p.length ∧ k ≤ 1048576 ∧ climbL prH lf k (p.drop j) = R ∧ lf.length = 32 ∧ ClAt w g lf wr
theorem climb_step {R lf x : List UInt8} {p : List (List UInt8)} {k j : Nat} (h : climbL prH lf k (p.drop j) = R) (hj : j < p.length) (hx : x = p.getD j []) :
    climbL prH (if k % 2 = 0 then prH lf x else prH x lf) (k / 2) (p.drop (j + 1)) = R := by
  rw [List.drop_eq_getElem_cons hj, climbL] at h
  rw [hx, List.getD_eq_getElem?_getD, List.getElem?_eq_getElem hj]
  exact h
end Go.Proofs.YtaeebcedobkopaaDoor.Sha

/-
  merkle.Climb answers what a leaf and a way make, or that it is none. Nothing that was there turns. Conditions: the digests lie where the slice says, the table is there.
-/
namespace Go.Proofs.YtaeebcedobkopaaDoor.Sha
open Go Go.RowKit
set_option maxHeartbeats 4000000 in
set_option maxRecDepth 100000 in
theorem climb_yes (leaf : List UInt8) (k0 y : Nat) (p : List (List UInt8)) (sp : Option Addr) (q cap : Nat) (w : World) (hk : KTab w) (hlf : leaf.length = 32) (hl : HsAt w (.slice sp q cap) p) (hky : k0 < y) (hy : y ≤ 1048576) (hq : q = rowsN y) :
    Calls Tryd.prog 11 #[.agg (leaf.map bV).toArray, .int .i64 k0, .int .i64 y, .slice sp q cap] w fun e w' => e = .returned (.tuple #[.agg ((climbL prH leaf k0 p).map bV).toArray, .bool true]) ∧ Below w.heap.size w w' := by
  have hq20 : q ≤ 20 := by rw [hq]; exact rowsN_le y 20 (by omega)
  obtain ⟨R, hR⟩ : ∃ R, R = climbL prH leaf k0 p := ⟨_, rfl⟩
  have hRl : R.length = 32 := by rw [hR]; exact climbL_len p leaf k0 hlf
  rw [← hR]
  have HR := Lib.hid hR
  have HRL : Hid ((R.map bV).length = 32) := by show _ = _; simp [hRl]
  have HRS : Hid ((R.map bV).toArray.size = 32) := by show _ = _; simp [hRl]
  have HPN := Lib.hid hl.len.1
  have HL0 := Lib.hid hl
  have HLF := Lib.hid hlf
  have HQ := Lib.hid hq
  have HKY := Lib.hid hky
  have HK := Lib.hid hk
  clear hR hRl hl hlf hq hk
  go_enter Tryd.func11, Tryd.ntmps11
  go_upto_region 1 with fail
  obtain ⟨b1, f1, f2⟩ := boxes_two w (leaf.map bV).toArray (List.replicate 32 (bV 0)).toArray 24
  generalize hw1 : World.alloc _ _ = w1
  have e1 : (w.alloc (.cells (leaf.map bV).toArray 24 (0, 0))).alloc (.cells (List.replicate 32 (bV 0)).toArray 24 (0, 0)) = w1 := hw1
  rw [e1] at b1 f1 f2
  obtain ⟨g, hg⟩ : ∃ g, g = w.heap.size := ⟨_, rfl⟩
  rw [← hg] at f1 f2 ⊢
  have CL : Hid (ClAt w g leaf w1) := ⟨f1, by rw [show zM.map bV = List.replicate 32 (bV 0) by rfl]; exact f2, b1, by omega⟩
  clear hw1 e1 b1 f1 f2 hg
  have s0 : ¬ (k0 : Int) < 0 := by omega
  have s1 : ¬ (k0 : Int) ≥ (y : Int) := by omega
  have s2 : ¬ (y : Int) > 1048576 := by omega
  go_wp2_with (go_at_call 22; refine (rows_above y hy _).mono ?_; rintro e w' ⟨rfl, rfl⟩; rw [← HQ.out])
  go_loopw [1, 33] (fun va vi wr => climbInv R p w g va vi wr) (fun _ vi _ => q - (intOf vi).toNat)
  case atStart => exact ⟨k0, 0, leaf, rfl, rfl, Nat.zero_le _, by have := HKY.out; omega, by rw [List.drop_zero]; exact HR.out.symm, HLF.out, CL.out⟩
  case round =>
    clear CL HR HLF s0 s1 s2
    obtain ⟨k, j, lf, rfl, rfl, hj, hk20, hc, hlfl, hat⟩ := hrel
    have HC := Lib.hid hc
    have C := Lib.hid hat
    have HLFL := Lib.hid hlfl
    have LF : Hid ((lf.map bV).length = 32) := by show _ = _; simp [hlfl]
    have HPN' := HPN.out
    have k00 : 0 ≤ (k : Int) := by omega
    have j00 : 0 ≤ (j : Int) := by omega
    clear hc hat hlfl
    by_cases hjq : j < q
    · have t1 : (j : Int) < (q : Int) := by omega
      obtain ⟨b, o, rfl, hbw, hg⟩ := (HL0.out.below C.out.low).get (by omega)
      obtain ⟨x, hx⟩ : ∃ x, x = p.getD j [] := ⟨_, rfl⟩
      have HX := Lib.hid (hg j hjq)
      rw [← hx] at HX
      have lx : x.length = 32 := by rw [hx]; exact HL0.out.1.get (by omega)
      have LXL := Lib.hid lx
      have LX : Hid ((x.map bV).length = 32) := by show _ = _; rw [List.length_map, lx]
      have HS := Lib.hid (climb_step HC.out (by omega) hx)
      have wj : IntKind.i64.wrap ((j : Int) + 1) = (j : Int) + 1 := IntWalk.i64_in _ (by omega)
      clear hg hx lx HC HPN'
      have LFS : Hid ((lf.map bV).toArray.size = 32) := by show _ = _; rw [List.size_toArray]; exact LF.out
      have LXS : Hid ((x.map bV).toArray.size = 32) := by show _ = _; rw [List.size_toArray]; exact LX.out
      go_upto_region 6 with ((with_reducible show wpList _ _ _ _ _ _); first | (refine wpList_load_mid rfl 24 (.tmp 35) rfl b (o + j * 32) rfl (x.map bV) _ HX.out Tryd.underlying24 rfl (by rw [LX.out]; kernel_rfl) ?_; go_frame) | (refine wpList_store_row rfl 24 (.tmp 11) (.tmp 36) rfl wr.heap.size (x.map bV).toArray rfl rfl 24 _ (heap_alloc_new wr _) (by rw [LXS.out]; kernel_rfl) (by rw [LXS.out]; rfl) (bV_one _) ?_; go_frame))
      obtain ⟨fb1, ff, _, fb2⟩ := fill_setup (Below.refl wr.heap.size wr) (List.replicate 32 (bV 0)).toArray (x.map bV).toArray 24
      obtain ⟨g2, hg2⟩ : ∃ g2, g2 = wr.heap.size := ⟨_, rfl⟩
      generalize hw2 : World.setRow _ _ _ = w2
      have e2 : (wr.alloc (.cells (List.replicate 32 (bV 0)).toArray 24)).setRow wr.heap.size (x.map bV).toArray = w2 := hw2
      rw [e2] at ff fb2
      rw [← hg2] at ff ⊢
      have F2 := Lib.hid ff
      have C2 := Lib.hid (C.out.below fb2)
      clear fb1 ff fb2 hw2 e2 hg2 C HX
      by_cases hk2 : k % 2 = 0
      · skip
        have t2 : ((k : Int) % 2 == 0) = true := by rw [beq_iff_eq]; omega
        have HS2 := HS.out
        rw [if_pos hk2] at HS2
        have HS2 := Lib.hid HS2
        have HPL : Hid ((prH lf x).length = 32) := prH_length _ _
        have HPM : Hid (((prH lf x).map bV).length = 32) := by show _ = _; rw [List.length_map, prH_length]
        obtain ⟨nl, hnl⟩ : ∃ nl, nl = prH lf x := ⟨_, rfl⟩
        rw [← hnl] at HS2 HPL HPM
        have NL := Lib.hid hnl
        clear HS hk2 hnl
        go_wp2_with ((with_reducible show wpList _ _ _ _ _ _); first | (refine wpList_load_row rfl 24 (.tmp 4) rfl g rfl 24 (lf.map bV).toArray (0, 0) _ C2.out.leaf Tryd.underlying24 rfl (by rw [LFS.out] <;> kernel_rfl) ?_; go_frame) | (refine wpList_load_row rfl 24 (.tmp 11) rfl g2 rfl 24 (x.map bV).toArray (0, 0) _ F2.out Tryd.underlying24 rfl (by rw [LXS.out] <;> kernel_rfl) ?_; go_frame))
        refine (join_any lf x HLFL.out LXL.out _ (HK.out.below C2.out.low)).mono ?_
        rintro e w3 ⟨rfl, hb3⟩
        rw [← NL.out]
        have C3 := Lib.hid (C2.out.below hb3)
        clear hb3 C2 F2
        go_wp2_with ((with_reducible show wpList _ _ _ _ _ _); refine wpList_store_whole rfl 24 (.tmp 4) (.tmp 42) rfl g (lf.map bV) (nl.map bV) 24 rfl rfl (by rw [LF.out, HPM.out]) C3.out.leaf (by rw [HPM.out]; kernel_rfl) (bV_one _) ?_; intro w4 q1 q2; have C4 := Lib.hid (C3.out.turn q1 q2); clear q1 q2; go_frame)
        go_roundw
        case rel => exact ⟨k / 2, j + 1, nl, by go_num, (congrArg (Value.int .i64) (by omega)), by have := HPN.out; omega, by omega, HS2.out, HPL.out, C4.out⟩
        case measure => simp [intOf]; omega
      · skip
        have t2 : ((k : Int) % 2 == 0) = false := by rw [beq_eq_false_iff_ne]; omega
        have HS2 := HS.out
        rw [if_neg hk2] at HS2
        have HS2 := Lib.hid HS2
        have HPL : Hid ((prH x lf).length = 32) := prH_length _ _
        have HPM : Hid (((prH x lf).map bV).length = 32) := by show _ = _; rw [List.length_map, prH_length]
        obtain ⟨nl, hnl⟩ : ∃ nl, nl = prH x lf := ⟨_, rfl⟩
        rw [← hnl] at HS2 HPL HPM
        have NL := Lib.hid hnl
        clear HS hk2 hnl
        go_wp2_with ((with_reducible show wpList _ _ _ _ _ _); first | (refine wpList_load_row rfl 24 (.tmp 4) rfl g rfl 24 (lf.map bV).toArray (0, 0) _ C2.out.leaf Tryd.underlying24 rfl (by rw [LFS.out] <;> kernel_rfl) ?_; go_frame) | (refine wpList_load_row rfl 24 (.tmp 11) rfl g2 rfl 24 (x.map bV).toArray (0, 0) _ F2.out Tryd.underlying24 rfl (by rw [LXS.out] <;> kernel_rfl) ?_; go_frame))
        refine (join_any x lf LXL.out HLFL.out _ (HK.out.below C2.out.low)).mono ?_
        rintro e w3 ⟨rfl, hb3⟩
        rw [← NL.out]
        have C3 := Lib.hid (C2.out.below hb3)
        clear hb3 C2 F2
        go_wp2_with ((with_reducible show wpList _ _ _ _ _ _); refine wpList_store_whole rfl 24 (.tmp 4) (.tmp 45) rfl g (lf.map bV) (nl.map bV) 24 rfl rfl (by rw [LF.out, HPM.out]) C3.out.leaf (by rw [HPM.out]; kernel_rfl) (bV_one _) ?_; intro w4 q1 q2; have C4 := Lib.hid (C3.out.turn q1 q2); clear q1 q2; go_frame)
        go_roundw
        case rel => exact ⟨k / 2, j + 1, nl, by go_num, (congrArg (Value.int .i64) (by omega)), by have := HPN.out; omega, by omega, HS2.out, HPL.out, C4.out⟩
        case measure => simp [intOf]; omega
    · have t1 : ¬ (j : Int) < (q : Int) := by omega
      have hRe : lf = R := by
        have h := HC.out
        rw [List.drop_of_length_le (by omega)] at h
        exact h
      have HRE := Lib.hid hRe
      have CF := C.out
      rw [hRe] at CF
      have CF := Lib.hid CF
      clear hRe C HC HPN'
      go_wp2_with ((with_reducible show wpList _ _ _ _ _ _); first | (refine wpList_load_row rfl 24 (.tmp 4) rfl g rfl 24 (R.map bV).toArray (0, 0) _ CF.out.leaf Tryd.underlying24 rfl (by rw [HRS.out] <;> kernel_rfl) ?_; go_frame) | (refine wpList_store_whole rfl 24 (.tmp 8) (.tmp 49) rfl (g + 1) (zM.map bV) (R.map bV) 24 rfl rfl (by rw [HRL.out]; rfl) CF.out.zero (by rw [HRL.out]; kernel_rfl) (bV_one _) ?_; intro w9 q1 q2; have F9 := Lib.hid q1; have B9 := Lib.hid (CF.out.low.grown q2 CF.out.low.size (fun k hk => by cases hk; have := CF.out.lo; omega)); clear q1 q2; go_frame))
      refine bodyPost_ret (results_row_tmp rfl _ _ (g + 1) 24 (R.map bV).toArray (0, 0) _ rfl F9.out Tryd.underlying24 rfl (by rw [HRS.out]; kernel_rfl)) rfl ⟨rfl, B9.out⟩
end Go.Proofs.YtaeebcedobkopaaDoor.Sha

/-
  merkle.Climb tells a way that is none. Nothing that was there turns. Condition: the digests lie where the slice says.
-/
namespace Go.Proofs.YtaeebcedobkopaaDoor.Sha
open Go Go.RowKit
/-- A way that is one. -/
def climbOk (x y : Int) (q : Nat) : Prop := 0 ≤ x ∧ x < y ∧ y ≤ 1048576 ∧ q = rowsN y.toNat
set_option maxRecDepth 100000 in
theorem climb_no1 (leaf : List UInt8) (x y : Int) (p : List (List UInt8)) (sp : Option Addr) (q cap : Nat) (w : World) (hl : HsAt w (.slice sp q cap) p) (h1 : x < 0) :
    Calls Tryd.prog 11 #[.agg (leaf.map bV).toArray, .int .i64 x, .int .i64 y, .slice sp q cap] w fun e w' => e = .returned (.tuple #[.agg (zM.map bV).toArray, .bool false]) ∧ Below w.heap.size w w' := by
  have s0 : x < 0 := h1
  have HZ : Hid ((zM.map bV).length = 32) := rfl
  clear hl
  go_enter Tryd.func11, Tryd.ntmps11
  go_upto_region 1 with fail
  obtain ⟨b1, f1, f2⟩ := boxes_two w (leaf.map bV).toArray (List.replicate 32 (bV 0)).toArray 24
  generalize hw1 : World.alloc _ _ = w1
  have e1 : (w.alloc (.cells (leaf.map bV).toArray 24 (0, 0))).alloc (.cells (List.replicate 32 (bV 0)).toArray 24 (0, 0)) = w1 := hw1
  rw [e1] at b1 f1 f2
  obtain ⟨g, hg⟩ : ∃ g, g = w.heap.size := ⟨_, rfl⟩
  rw [← hg] at f1 f2 ⊢
  have CL : Hid (ClAt w g leaf w1) := ⟨f1, by rw [show zM.map bV = List.replicate 32 (bV 0) by rfl]; exact f2, b1, by omega⟩
  clear hw1 e1 b1 f1 f2 hg
  go_wp2_with ((with_reducible show wpList _ _ _ _ _ _); refine wpList_store_whole rfl 24 (.tmp 8) (.tmp 30) rfl (g + 1) (zM.map bV) (zM.map bV) 24 rfl rfl rfl CL.out.zero (by kernel_rfl) (bV_one _) ?_; intro w9 q1 q2; have F9 := Lib.hid q1; have B9 := Lib.hid (CL.out.low.grown q2 CL.out.low.size (fun k hk => by cases hk; have := CL.out.lo; omega)); clear q1 q2; go_frame)
  refine bodyPost_ret (results_row_tmp rfl _ _ (g + 1) 24 (zM.map bV).toArray (0, 0) _ rfl F9.out Tryd.underlying24 rfl (by kernel_rfl)) rfl ⟨rfl, B9.out⟩
set_option maxRecDepth 100000 in
theorem climb_no2 (leaf : List UInt8) (x y : Int) (p : List (List UInt8)) (sp : Option Addr) (q cap : Nat) (w : World) (hl : HsAt w (.slice sp q cap) p) (h1 : ¬ x < 0) (h2 : y ≤ x) :
    Calls Tryd.prog 11 #[.agg (leaf.map bV).toArray, .int .i64 x, .int .i64 y, .slice sp q cap] w fun e w' => e = .returned (.tuple #[.agg (zM.map bV).toArray, .bool false]) ∧ Below w.heap.size w w' := by
  have s1 : x ≥ y := h2
  have HZ : Hid ((zM.map bV).length = 32) := rfl
  clear hl
  go_enter Tryd.func11, Tryd.ntmps11
  go_upto_region 1 with fail
  obtain ⟨b1, f1, f2⟩ := boxes_two w (leaf.map bV).toArray (List.replicate 32 (bV 0)).toArray 24
  generalize hw1 : World.alloc _ _ = w1
  have e1 : (w.alloc (.cells (leaf.map bV).toArray 24 (0, 0))).alloc (.cells (List.replicate 32 (bV 0)).toArray 24 (0, 0)) = w1 := hw1
  rw [e1] at b1 f1 f2
  obtain ⟨g, hg⟩ : ∃ g, g = w.heap.size := ⟨_, rfl⟩
  rw [← hg] at f1 f2 ⊢
  have CL : Hid (ClAt w g leaf w1) := ⟨f1, by rw [show zM.map bV = List.replicate 32 (bV 0) by rfl]; exact f2, b1, by omega⟩
  clear hw1 e1 b1 f1 f2 hg
  go_wp2_with ((with_reducible show wpList _ _ _ _ _ _); refine wpList_store_whole rfl 24 (.tmp 8) (.tmp 30) rfl (g + 1) (zM.map bV) (zM.map bV) 24 rfl rfl rfl CL.out.zero (by kernel_rfl) (bV_one _) ?_; intro w9 q1 q2; have F9 := Lib.hid q1; have B9 := Lib.hid (CL.out.low.grown q2 CL.out.low.size (fun k hk => by cases hk; have := CL.out.lo; omega)); clear q1 q2; go_frame)
  refine bodyPost_ret (results_row_tmp rfl _ _ (g + 1) 24 (zM.map bV).toArray (0, 0) _ rfl F9.out Tryd.underlying24 rfl (by kernel_rfl)) rfl ⟨rfl, B9.out⟩
set_option maxRecDepth 100000 in
theorem climb_no3 (leaf : List UInt8) (x y : Int) (p : List (List UInt8)) (sp : Option Addr) (q cap : Nat) (w : World) (hl : HsAt w (.slice sp q cap) p) (h1 : ¬ x < 0) (h2 : ¬ y ≤ x) (h3 : 1048576 < y) :
    Calls Tryd.prog 11 #[.agg (leaf.map bV).toArray, .int .i64 x, .int .i64 y, .slice sp q cap] w fun e w' => e = .returned (.tuple #[.agg (zM.map bV).toArray, .bool false]) ∧ Below w.heap.size w w' := by
  have s1 : ¬ x ≥ y := h2
  have s2 : y > 1048576 := h3
  have HZ : Hid ((zM.map bV).length = 32) := rfl
  clear hl
  go_enter Tryd.func11, Tryd.ntmps11
  go_upto_region 1 with fail
  obtain ⟨b1, f1, f2⟩ := boxes_two w (leaf.map bV).toArray (List.replicate 32 (bV 0)).toArray 24
  generalize hw1 : World.alloc _ _ = w1
  have e1 : (w.alloc (.cells (leaf.map bV).toArray 24 (0, 0))).alloc (.cells (List.replicate 32 (bV 0)).toArray 24 (0, 0)) = w1 := hw1
  rw [e1] at b1 f1 f2
  obtain ⟨g, hg⟩ : ∃ g, g = w.heap.size := ⟨_, rfl⟩
  rw [← hg] at f1 f2 ⊢
  have CL : Hid (ClAt w g leaf w1) := ⟨f1, by rw [show zM.map bV = List.replicate 32 (bV 0) by rfl]; exact f2, b1, by omega⟩
  clear hw1 e1 b1 f1 f2 hg
  go_wp2_with ((with_reducible show wpList _ _ _ _ _ _); refine wpList_store_whole rfl 24 (.tmp 8) (.tmp 30) rfl (g + 1) (zM.map bV) (zM.map bV) 24 rfl rfl rfl CL.out.zero (by kernel_rfl) (bV_one _) ?_; intro w9 q1 q2; have F9 := Lib.hid q1; have B9 := Lib.hid (CL.out.low.grown q2 CL.out.low.size (fun k hk => by cases hk; have := CL.out.lo; omega)); clear q1 q2; go_frame)
  refine bodyPost_ret (results_row_tmp rfl _ _ (g + 1) 24 (zM.map bV).toArray (0, 0) _ rfl F9.out Tryd.underlying24 rfl (by kernel_rfl)) rfl ⟨rfl, B9.out⟩
set_option maxRecDepth 100000 in
theorem climb_no4 (leaf : List UInt8) (x y : Int) (p : List (List UInt8)) (sp : Option Addr) (q cap : Nat) (w : World) (hl : HsAt w (.slice sp q cap) p) (h1 : ¬ x < 0) (h2 : ¬ y ≤ x) (h3 : ¬ 1048576 < y) (h4 : ¬ q = rowsN y.toNat) :
    Calls Tryd.prog 11 #[.agg (leaf.map bV).toArray, .int .i64 x, .int .i64 y, .slice sp q cap] w fun e w' => e = .returned (.tuple #[.agg (zM.map bV).toArray, .bool false]) ∧ Below w.heap.size w w' := by
  have s0 : ¬ x < 0 := by omega
  have s1 : ¬ x ≥ y := by omega
  have s2 : ¬ y > 1048576 := by omega
  obtain ⟨y, rfl⟩ := Int.eq_ofNat_of_zero_le (show 0 ≤ y by omega)
  obtain ⟨r, hr⟩ : ∃ r, r = rowsN y := ⟨_, rfl⟩
  rw [Int.toNat_natCast, ← hr] at h4
  have hqr : ((q : Int) != (r : Int)) = true := by rw [bne_iff_ne]; intro e; exact h4 (by omega)
  have HRW := Lib.hid hr
  have hyb : y ≤ 1048576 := by omega
  clear hr h4
  have HZ : Hid ((zM.map bV).length = 32) := rfl
  clear hl
  go_enter Tryd.func11, Tryd.ntmps11
  go_upto_region 1 with fail
  obtain ⟨b1, f1, f2⟩ := boxes_two w (leaf.map bV).toArray (List.replicate 32 (bV 0)).toArray 24
  generalize hw1 : World.alloc _ _ = w1
  have e1 : (w.alloc (.cells (leaf.map bV).toArray 24 (0, 0))).alloc (.cells (List.replicate 32 (bV 0)).toArray 24 (0, 0)) = w1 := hw1
  rw [e1] at b1 f1 f2
  obtain ⟨g, hg⟩ : ∃ g, g = w.heap.size := ⟨_, rfl⟩
  rw [← hg] at f1 f2 ⊢
  have CL : Hid (ClAt w g leaf w1) := ⟨f1, by rw [show zM.map bV = List.replicate 32 (bV 0) by rfl]; exact f2, b1, by omega⟩
  clear hw1 e1 b1 f1 f2 hg
  go_wp2_with (first | (go_at_call 22; refine (rows_above y hyb _).mono ?_; rintro e w' ⟨rfl, rfl⟩; rw [← HRW.out]) | ((with_reducible show wpList _ _ _ _ _ _); refine wpList_store_whole rfl 24 (.tmp 8) (.tmp 30) rfl (g + 1) (zM.map bV) (zM.map bV) 24 rfl rfl rfl CL.out.zero (by kernel_rfl) (bV_one _) ?_; intro w9 q1 q2; have F9 := Lib.hid q1; have B9 := Lib.hid (CL.out.low.grown q2 CL.out.low.size (fun k hk => by cases hk; have := CL.out.lo; omega)); clear q1 q2; go_frame))
  refine bodyPost_ret (results_row_tmp rfl _ _ (g + 1) 24 (zM.map bV).toArray (0, 0) _ rfl F9.out Tryd.underlying24 rfl (by kernel_rfl)) rfl ⟨rfl, B9.out⟩
theorem climb_no (leaf : List UInt8) (x y : Int) (p : List (List UInt8)) (sp : Option Addr) (q cap : Nat) (w : World) (hl : HsAt w (.slice sp q cap) p) (h : ¬ climbOk x y q) :
    Calls Tryd.prog 11 #[.agg (leaf.map bV).toArray, .int .i64 x, .int .i64 y, .slice sp q cap] w fun e w' => e = .returned (.tuple #[.agg (zM.map bV).toArray, .bool false]) ∧ Below w.heap.size w w' := by
  by_cases h1 : x < 0
  · exact climb_no1 leaf x y p sp q cap w hl h1
  · by_cases h2 : y ≤ x
    · exact climb_no2 leaf x y p sp q cap w hl h1 h2
    · by_cases h3 : 1048576 < y
      · exact climb_no3 leaf x y p sp q cap w hl h1 h2 h3
      · exact climb_no4 leaf x y p sp q cap w hl h1 h2 h3 (fun e => h ⟨by omega, by omega, by omega, e⟩)
end Go.Proofs.YtaeebcedobkopaaDoor.Sha

/-
  Parts of a row of digests; two digests in a row of their own; the calls that take ways. Conditions: as told.
-/
namespace Go.Proofs.YtaeebcedobkopaaDoor.Sha
open Go Go.RowKit
theorem run_cutS_lh {P : Program} {w : World} (t e : TypeId) (s : Nat) (sp : Option Addr) (n cap l r : Nat) (hu : P.underlying t = some (.slice e)) (hsz : (P.info? e).map (·.size) = some s) (h1 : l ≤ r) (h2 : r ≤ cap) :
    (Instr.sliceAt t (.slice sp n cap) (some (.int .i64 l)) (some (.int .i64 r)) none).run P w = .ok (sliced sp l r cap s) w := by
  obtain ⟨i, hi, hs⟩ := Option.map_eq_some_iff.1 hsz
  have hu' : P.underlying t = some (.slice (P.elem t)) := by rw [elem_of hu]; exact hu
  rw [run_sliceAt_slice _ _ _ _ _ _ hu', run_slice_lh _ _ _ _ _ hu' _ _ _ _ (by omega) (by omega) (by omega), elem_of hu]
  simp [sizeOf, typeInfo, hi, hs, sliced, go_sem]
theorem run_cutS_h {P : Program} {w : World} (t e : TypeId) (s : Nat) (sp : Option Addr) (n cap r : Nat) (hu : P.underlying t = some (.slice e)) (hsz : (P.info? e).map (·.size) = some s) (h2 : r ≤ cap) :
    (Instr.sliceAt t (.slice sp n cap) none (some (.int .i64 r)) none).run P w = .ok (sliced sp 0 r cap s) w := by
  obtain ⟨i, hi, hs⟩ := Option.map_eq_some_iff.1 hsz
  have hu' : P.underlying t = some (.slice (P.elem t)) := by rw [elem_of hu]; exact hu
  rw [run_sliceAt_slice _ _ _ _ _ _ hu', run_slice_h _ _ _ _ _ hu' _ _ (by omega) (by omega), elem_of hu]
  simp [sizeOf, typeInfo, hi, hs, sliced, go_sem]
theorem run_cutS_l {P : Program} {w : World} (t e : TypeId) (s : Nat) (sp : Option Addr) (n cap l : Nat) (hu : P.underlying t = some (.slice e)) (hsz : (P.info? e).map (·.size) = some s) (h1 : l ≤ n) :
    (Instr.sliceAt t (.slice sp n cap) (some (.int .i64 l)) none none).run P w = .ok (sliced sp l n cap s) w := by
  obtain ⟨i, hi, hs⟩ := Option.map_eq_some_iff.1 hsz
  have hu' : P.underlying t = some (.slice (P.elem t)) := by rw [elem_of hu]; exact hu
  rw [run_sliceAt_slice _ _ _ _ _ _ hu', run_slice_l _ _ _ _ _ hu' _ _ (by omega) (by omega), elem_of hu]
  simp [sizeOf, typeInfo, hi, hs, sliced, go_sem]
section
variable {P : Program} {w : World} {ops : Array Oper} {rest : List Oper} {o : Oper} {a : Act} {Q : Exit → Act → World → Prop}
theorem wpList_cutS_lh (hgd : o.guard = none) (t : TypeId) (x lo hi : Operand) (ho : o.op = .slice t x (some lo) (some hi) none) (e : TypeId) (s : Nat) (hu : P.underlying t = some (.slice e)) (hsz : (P.info? e).map (·.size) = some s)
    (sp : Option Addr) (n cap : Nat) (l r : Nat) (hx : a.eval x = .slice sp n cap) (hl : a.eval lo = .int .i64 l) (hr : a.eval hi = .int .i64 r) (h1 : l ≤ r) (h2 : r ≤ cap)
    (h : ∀ v, Hid (v = sliced sp l r cap s) → wpList P ops Q rest (a.put o.dst v) w) : wpList P ops Q (o :: rest) a w := by
  refine wpList_plain hgd fun K hK => ?_
  unfold Oper.wp
  simp [execOp, ho, hx, hl, hr, run_cutS_lh (w := w) t e s sp n cap l r hu hsz h1 h2, Result.andThen]
  exact hK _ _ (h _ rfl)
theorem wpList_cutS_h (hgd : o.guard = none) (t : TypeId) (x hi : Operand) (ho : o.op = .slice t x none (some hi) none) (e : TypeId) (s : Nat) (hu : P.underlying t = some (.slice e)) (hsz : (P.info? e).map (·.size) = some s)
    (sp : Option Addr) (n cap : Nat) (r : Nat) (hx : a.eval x = .slice sp n cap) (hr : a.eval hi = .int .i64 r) (h2 : r ≤ cap)
    (h : ∀ v, Hid (v = sliced sp 0 r cap s) → wpList P ops Q rest (a.put o.dst v) w) : wpList P ops Q (o :: rest) a w := by
  refine wpList_plain hgd fun K hK => ?_
  unfold Oper.wp
  simp [execOp, ho, hx, hr, run_cutS_h (w := w) t e s sp n cap r hu hsz h2, Result.andThen]
  exact hK _ _ (h _ rfl)
theorem yields_cutS_l {S : World → Prop} (hw : Region.wanted o (yielded ops a.tmps) = true) (t : TypeId) (x lo : Operand) (ho : o.op = .slice t x (some lo) none none) (e : TypeId) (s : Nat) (hu : P.underlying t = some (.slice e)) (hsz : (P.info? e).map (·.size) = some s)
    (sp : Option Addr) (n cap l : Nat) (v : Value) (hx : a.eval x = .slice sp n cap) (hl : a.eval lo = .int .i64 l) (h1 : l ≤ n) (hv : v = sliced sp l n cap s) : YieldsIf P ops S o v a :=
  .inl ⟨hw, fun w _ => by simp [execOp, ho, hx, hl, run_cutS_l (w := w) t e s sp n cap l hu hsz h1, Result.andThen, hv]⟩
theorem yields_cutS_h {S : World → Prop} (hw : Region.wanted o (yielded ops a.tmps) = true) (t : TypeId) (x hi : Operand) (ho : o.op = .slice t x none (some hi) none) (e : TypeId) (s : Nat) (hu : P.underlying t = some (.slice e)) (hsz : (P.info? e).map (·.size) = some s)
    (sp : Option Addr) (n cap r : Nat) (v : Value) (hx : a.eval x = .slice sp n cap) (hr : a.eval hi = .int .i64 r) (h2 : r ≤ cap) (hv : v = sliced sp 0 r cap s) : YieldsIf P ops S o v a :=
  .inl ⟨hw, fun w _ => by simp [execOp, ho, hx, hr, run_cutS_h (w := w) t e s sp n cap r hu hsz h2, Result.andThen, hv]⟩
end
theorem wp_slice_two {P : Program} {o : Oper} {a : Act} {w : World} {K : Act → World → Prop} {Q : Exit → Act → World → Prop} (t e : TypeId) (x y : Operand) (ho : o.op = .buildSlice t 2 #[(0, x), (1, y)]) (cs ds : List Value) (hx : a.eval x = .agg cs.toArray) (hy : a.eval y = .agg ds.toArray)
    (hu : P.underlying t = some (.slice e)) (i : TypeInfo) (z : Value) (hi : P.info? e = some i) (hz : i.zero = some z) (hs : i.size = cs.length) (hs2 : i.size = ds.length) (hp : 0 < cs.length) (hm : cs.length ≤ 16777)
    (h : K (a.put o.dst (.slice (some ⟨w.heap.size, 0, none⟩) 2 2)) (w.alloc (.cells (cs ++ ds).toArray e))) : o.wp P a w K Q := by
  refine wp_buildSlice t e 2 _ ho (cs ++ ds).toArray i z hu hi hz (by rw [hs]; omega) (by rw [hs]; omega) ?_ h
  have e1 : (Array.map (fun (q : Nat × Operand) => (q.1, a.eval q.2)) #[(0, x), (1, y)]).toList = [(0, .agg cs.toArray), (1, .agg ds.toArray)] := by simp [hx, hy]
  rw [show (Array.map (fun (i, x) => (i, a.eval x)) #[(0, x), (1, y)]).toList = [(0, .agg cs.toArray), (1, .agg ds.toArray)] from e1, ← Array.toArray_toList (xs := Array.map _ _)]
  exact fill_two i.size _ (by simp) cs ds hs.symm hs2.symm
theorem HsAt.head {w : World} {sp : Option Addr} {n cap : Nat} {l : List (List UInt8)} (h : HsAt w (.slice sp n cap) l) (r : Nat) (h2 : r ≤ n) : HsAt w (sliced sp 0 r cap 32) (l.take r) := by
  have := h.cut 0 r (Nat.zero_le _) h2
  rwa [List.drop_zero] at this
theorem HsAt.tail {w : World} {sp : Option Addr} {n cap : Nat} {l : List (List UInt8)} (h : HsAt w (.slice sp n cap) l) (i : Nat) (h2 : i ≤ n) : HsAt w (sliced sp i n cap 32) (l.drop i) := by
  have := h.cut i n h2 (Nat.le_refl _)
  rwa [List.take_of_length_le (by rw [h.len.1]; exact Nat.le_refl _)] at this
theorem path_v (k : Nat) (l P : List (List UInt8)) (v : Value) (w : World) (hk : KTab w) (h : HsAt w v l) (hn : l.length ≤ 1048576) (hkn : k < l.length) (hP : pathL prH zM k l = P) :
    Calls Tryd.prog 9 #[.int .i64 k, v] w fun e w' => ∃ v, e = .returned (.tuple #[v, .bool true]) ∧ HsAt w' v P ∧ Below w.heap.size w w' := by
  obtain ⟨sp, cap, rfl⟩ := h.shape
  subst hP
  exact (path_in k l sp _ cap w hk h hn hkn).mono fun e w' ⟨v, h1, h2, h3⟩ => ⟨v, h1, h2.at, h3⟩
theorem climb_v (leaf : List UInt8) (k y : Nat) (p : List (List UInt8)) (R : List UInt8) (v : Value) (w : World) (hk : KTab w) (hlf : leaf.length = 32) (h : HsAt w v p) (hky : k < y) (hy : y ≤ 1048576) (hq : p.length = rowsN y) (hR : climbL prH leaf k p = R) :
    Calls Tryd.prog 11 #[.agg (leaf.map bV).toArray, .int .i64 k, .int .i64 y, v] w fun e w' => e = .returned (.tuple #[.agg (R.map bV).toArray, .bool true]) ∧ Below w.heap.size w w' := by
  obtain ⟨sp, cap, rfl⟩ := h.shape
  subst hR
  exact climb_yes leaf k y p sp _ cap w hk hlf h hky hy hq
theorem climb_v_no (leaf : List UInt8) (x y : Int) (p : List (List UInt8)) (v : Value) (w : World) (h : HsAt w v p) (hn : ¬ climbOk x y p.length) :
    Calls Tryd.prog 11 #[.agg (leaf.map bV).toArray, .int .i64 x, .int .i64 y, v] w fun e w' => e = .returned (.tuple #[.agg (zM.map bV).toArray, .bool false]) ∧ Below w.heap.size w w' := by
  obtain ⟨sp, cap, rfl⟩ := h.shape
  exact climb_no leaf x y p sp _ cap w h hn
theorem hsL_set : ∀ (l : List (List UInt8)) (k e : Nat) (x : List UInt8) (y : UInt8), HsOk l → l[k]? = some x → e < 32 → (hsL l).set (k * 32 + e) (bV y) = hsL (l.set k (x.set e y))
  | z :: l, 0, e, x, y, ho, hx, he => by
    simp only [List.getElem?_cons_zero, Option.some.injEq] at hx
    subst hx
    rw [Nat.zero_mul, Nat.zero_add, hsL, List.flatMap_cons, List.set_append_left (h := by rw [List.length_map, ho z List.mem_cons_self]; exact he), List.set_cons_zero, hsL, List.flatMap_cons, List.map_set]
  | z :: l, k + 1, e, x, y, ho, hx, he => by
    have ez : (z.map bV).length = 32 := by rw [List.length_map, ho z List.mem_cons_self]
    have ih := hsL_set l k e x y (fun a ha => ho a (List.mem_cons_of_mem _ ha)) (by simpa using hx) he
    rw [hsL] at ih
    rw [hsL, List.flatMap_cons, List.set_append_right (h := by omega), ez, show (k + 1) * 32 + e - 32 = k * 32 + e by omega, ih, List.set_cons_succ, hsL, hsL, List.flatMap_cons]
  | [], _, _, _, _, _, hx, _ => by simp at hx
theorem HsOk.set {l : List (List UInt8)} (h : HsOk l) (k : Nat) {x : List UInt8} (hx : x.length = 32) : HsOk (l.set k x) := fun y hy => by
  rcases List.mem_or_eq_of_mem_set hy with hy | rfl
  · exact h y hy
  · exact hx
/-- A box made and filled. -/
theorem box_filled (w : World) (x : List UInt8) {W : World} (hB : Below W.heap.size W w) : Below W.heap.size W ((w.alloc (.cells (List.replicate 32 (bV 0)).toArray 24)).setRow w.heap.size (x.map bV).toArray)
    ∧ ((w.alloc (.cells (List.replicate 32 (bV 0)).toArray 24)).setRow w.heap.size (x.map bV).toArray).heap[w.heap.size]? = some (.cells (x.map bV).toArray 24 (0, 0))
    ∧ Below w.heap.size w ((w.alloc (.cells (List.replicate 32 (bV 0)).toArray 24)).setRow w.heap.size (x.map bV).toArray) := by
  obtain ⟨h1, h2, _, h3⟩ := fill_setup hB (List.replicate 32 (bV 0)).toArray (x.map bV).toArray 24
  exact ⟨h1, h2, h3⟩
end Go.Proofs.YtaeebcedobkopaaDoor.Sha
