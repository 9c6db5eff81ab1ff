/-
  Texts of this proof joined into one file: MkRowsWalk, HsSame, Bits, TxCloneA, TxOwnWalk. What each holds, and under which conditions, its own first sentence tells.
-/
import Derived.IntWalk
import Derived.Deep.DeepCutAuto
import Derived.Laws.BitsAllLaws
import Derived.Great.BuildSlice
import Derived.Test.YtaeebcedobkopaaDoorMg07
import Derived.Test.YtaeebcedobkopaaDoorMg08
import Derived.Test.YtaeebcedobkopaaDoorMg01
import Derived.Test.YtaeebcedobkopaaDoorMg04
import Derived.Test.YtaeebcedobkopaaDoorMg03
/-
  The statement on rows of a power of two answers true. Nothing that was there turns. Conditions: digests of 32 bytes, the table is there.
-/
namespace Go.Proofs.YtaeebcedobkopaaDoor.Sha
open Go Go.RowKit
set_option maxHeartbeats 1000000 in
set_option maxRecDepth 100000 in
theorem merklerows_main (l : List (List UInt8)) (v : Value) (x : Int) (w : World) (hl : HsAt w v l) (hm : l.length ≤ 9223372036854775807) (hi64 : -9223372036854775808 ≤ x ∧ x ≤ 9223372036854775807) (hk : KTab w) :
    Calls Tryd.prog 7 #[v, .int .i64 x] w fun e w' => e = .returned (.bool true) ∧ Below w.heap.size w w' := by
  obtain ⟨i0, hi, hz0, hz1, hz2⟩ := info_parts info_hash
  obtain ⟨sp, cap, rfl⟩ := hl.shape
  obtain ⟨n, hn⟩ : ∃ n, n = l.length := ⟨_, rfl⟩
  rw [← hn] at hl hm ⊢
  have HN := Lib.hid hn
  have HL0 := Lib.hid hl
  have HK := Lib.hid hk
  have HI := Lib.hid hi64
  clear hl hn hk hi64
  have n0 : 0 ≤ (n : Int) := by omega
  obtain ⟨j, hj, hj5⟩ := numb_nat x 5 (by omega)
  have HKN : Hid (numb x 5 = (j : Int)) := hj
  obtain ⟨M, hM⟩ : ∃ M, M = 2 ^ j := ⟨_, rfl⟩
  have HJ := Lib.hid hM
  have hM1 : 1 ≤ M := by rw [hM]; exact Nat.one_le_two_pow
  have hM16 : M ≤ 16 := by rw [hM, show 16 = 2 ^ 4 by rfl]; exact Nat.pow_le_pow_right (by omega) (by omega)
  obtain ⟨M2, hM2⟩ : ∃ M2, M2 = 2 * M := ⟨_, rfl⟩
  clear hj hM
  go_enter Tryd.func7, Tryd.ntmps7
  go_upto_region 4 with (go_at_call 8; refine (first6 w HK.out).mono ?_; rintro e wr ⟨rfl, hb1⟩; have B := Lib.hid hb1; have HKR := Lib.hid (HK.out.below hb1); have HL := Lib.hid (HL0.out.below hb1); clear hb1)
  have j0 : 0 ≤ (j : Int) := by omega
  have j4 : (j : Int) < 5 := by omega
  go_cut [1] (fun v1 wx => v1 = .int .i64 (M : Int) ∧ wx = wr)
  case first =>
    have hcase : j = 0 ∨ j = 1 ∨ j = 2 ∨ j = 3 ∨ j = 4 := by omega
    rcases hcase with rfl | rfl | rfl | rfl | rfl
    all_goals
      go_wp2_with (go_at_call 17; refine (numb_any x 5 (by omega) (by omega) HI.out _).mono ?_; rintro e w' ⟨rfl, rfl⟩; rw [HKN.out])
      go_meet
      case rel => exact ⟨(congrArg (Value.int .i64) (by have := HJ.out; omega)), rfl⟩
  case rest =>
    obtain ⟨rfl, rfl⟩ := hcut
    by_cases hnM : n < M2
    · have t5 : (n : Int) < 2 * (M : Int) := by omega
      go_wp2_with fail
      go_ret
      exact ⟨rfl, B.out⟩
    · skip
      have t5b : decide ((n : Int) < 2 * (M : Int)) = false := by rw [decide_eq_false_iff_not]; omega
      have E2 : Hid (2 * (M : Int) = (M2 : Int)) := by show _ = _; omega
      have hM22 : M2 ≤ 32 := by omega
      obtain ⟨A, hA⟩ : ∃ A, A = rootL prH zM (l.take M) := ⟨_, rfl⟩
      obtain ⟨B0, hB0⟩ : ∃ B0, B0 = rootL prH zM ((l.take M2).drop M) := ⟨_, rfl⟩
      obtain ⟨T, hT⟩ : ∃ T, T = rootL prH zM (l.take M2) := ⟨_, rfl⟩
      have hnn := HN.out
      have hjj := HJ.out
      have lA : (l.take M).length = 2 ^ j := by rw [List.length_take]; omega
      have lB : ((l.take M2).drop M).length = 2 ^ j := by rw [List.length_drop, List.length_take]; omega
      have lM2 : (l.take M2).length = M2 := by rw [List.length_take]; omega
      have eAB : l.take M ++ (l.take M2).drop M = l.take M2 := by
        have := List.take_append_drop M (l.take M2)
        rwa [List.take_take, Nat.min_eq_left (by omega)] at this
      obtain ⟨r1, r2, _⟩ := root_two prH zM j (l.take M) ((l.take M2).drop M) lA lB
      have r3 := pathL_at prH zM j (l.take M) ((l.take M2).drop M) lA lB
      rw [r2, Nat.add_sub_cancel] at r3
      rw [eAB] at r1 r2 r3
      obtain ⟨P, hP⟩ : ∃ P, P = pathL prH zM M (l.take M2) := ⟨_, rfl⟩
      rw [← hjj, ← hP] at r2 r3
      have HRA : Hid (rootL prH zM (l.take M) = A) := hA.symm
      have HRB : Hid (rootL prH zM ((l.take M2).drop M) = B0) := hB0.symm
      have HRT : Hid (rootL prH zM (l.take M2) = T) := hT.symm
      have HRAB : Hid (rootL prH zM [A, B0] = T) := by
        show _ = _
        rw [rootL_more prH zM (by simp), show rowL prH [A, B0] = [prH A B0] by rfl, rootL_one prH zM (by simp), hT, r1, hA, hB0]
        rfl
      have HPP : Hid (pathL prH zM M (l.take M2) = P) := hP.symm
      have HPA : Hid (P.getD j zM = A) := by show _ = _; rw [r3, hA]
      have HPN := Lib.hid r2
      have okA : HsOk (l.take M) := fun y hy => HL0.out.1 y (List.mem_of_mem_take hy)
      have okB : HsOk ((l.take M2).drop M) := fun y hy => HL0.out.1 y (List.mem_of_mem_take (List.mem_of_mem_drop hy))
      have okT : HsOk (l.take M2) := fun y hy => HL0.out.1 y (List.mem_of_mem_take hy)
      have LAL : Hid (A.length = 32) := by show _ = _; rw [hA]; exact rootL_len _ _ rfl okA
      have LBL : Hid (B0.length = 32) := by show _ = _; rw [hB0]; exact rootL_len _ _ rfl okB
      have HTL : Hid (T.length = 32) := by show _ = _; rw [hT]; exact rootL_len _ _ rfl okT
      have LA : Hid ((A.map bV).length = 32) := by show _ = _; rw [List.length_map]; exact LAL.out
      have LB : Hid ((B0.map bV).length = 32) := by show _ = _; rw [List.length_map]; exact LBL.out
      have AS : Hid ((A.map bV).toArray.size = 32) := by show _ = _; rw [List.size_toArray]; exact LA.out
      have BS : Hid ((B0.map bV).toArray.size = 32) := by show _ = _; rw [List.size_toArray]; exact LB.out
      have HN1 : Hid ((l.take M).length ≤ 1048576) := by show _ ≤ _; omega
      have HN1b : Hid (((l.take M2).drop M).length ≤ 1048576) := by show _ ≤ _; omega
      have HN2 : Hid ((l.take M2).length ≤ 1048576) := by show _ ≤ _; omega
      have HM2 : Hid (M < (l.take M2).length) := by show _ < _; omega
      have HCAP : Hid (n ≤ cap) := HL0.out.len.2
      clear hA hB0 hT hnn hjj lA lB lM2 eAB r1 r2 r3 hP okA okB okT
      go_wp2_with ((with_reducible show wpList _ _ _ _ _ _); refine wpList_cutS_h rfl 22 (.tmp 25) (.tmp 26) rfl 24 32 Tryd.underlying22 (by kernel_rfl) sp n cap M rfl rfl (by have := HCAP.out; omega) ?_; intro va hva; go_frame)
      refine (root_v (l.take M) A va _ HKR.out (by rw [hva.out]; exact HL.out.head M (by omega)) HN1.out HRA.out).mono ?_
      rintro e w2 ⟨rfl, hb⟩
      have B := Lib.hid (B.out.trans (hb.mono B.out.size))
      have HKR := Lib.hid (HKR.out.below hb)
      have HL := Lib.hid (HL.out.below hb)
      clear hb
      go_upto_region 8 with ((with_reducible show wpList _ _ _ _ _ _); refine wpList_store_row rfl 24 (.tmp 6) (.tmp 28) rfl w2.heap.size (A.map bV).toArray rfl rfl 24 _ (heap_alloc_new w2 _) (by rw [AS.out]; kernel_rfl) (by rw [AS.out]; rfl) (bV_one _) ?_; go_frame)
      obtain ⟨fb1, ff, hb⟩ := box_filled w2 A (Below.refl w2.heap.size w2)
      obtain ⟨g6, hg⟩ : ∃ g, g = w2.heap.size := ⟨_, rfl⟩
      generalize hq : World.setRow _ _ _ = w3
      have e2 : (w2.alloc (.cells (List.replicate 32 (bV 0)).toArray 24)).setRow w2.heap.size (A.map bV).toArray = w3 := hq
      rw [e2] at ff hb
      rw [← hg] at ff ⊢
      clear fb1 hq e2 hg
      have F6 := Lib.hid ff
      clear ff
      have B := Lib.hid (B.out.trans (hb.mono B.out.size))
      have HKR := Lib.hid (HKR.out.below hb)
      have HL := Lib.hid (HL.out.below hb)
      clear hb
      go_wp2_with ((with_reducible show wpList _ _ _ _ _ _); refine wpList_cutS_lh rfl 22 (.tmp 29) (.tmp 30) (.tmp 32) rfl 24 32 Tryd.underlying22 (by kernel_rfl) sp n cap M M2 rfl rfl (congrArg (Value.int .i64) E2.out) (by omega) (by have := HCAP.out; omega) ?_; intro vb hvb; go_frame)
      refine (root_v ((l.take M2).drop M) B0 vb _ HKR.out (by rw [hvb.out]; exact HL.out.cut M M2 (by omega) (by omega)) HN1b.out HRB.out).mono ?_
      rintro e w4 ⟨rfl, hb⟩
      have B := Lib.hid (B.out.trans (hb.mono B.out.size))
      have HKR := Lib.hid (HKR.out.below hb)
      have HL := Lib.hid (HL.out.below hb)
      have F6 := Lib.hid (row_below F6.out hb)
      clear hb
      go_upto_region 9 with ((with_reducible show wpList _ _ _ _ _ _); refine wpList_store_row rfl 24 (.tmp 7) (.tmp 34) rfl w4.heap.size (B0.map bV).toArray rfl rfl 24 _ (heap_alloc_new w4 _) (by rw [BS.out]; kernel_rfl) (by rw [BS.out]; rfl) (bV_one _) ?_; go_frame)
      obtain ⟨fb1, ff, hb⟩ := box_filled w4 B0 (Below.refl w4.heap.size w4)
      obtain ⟨g7, hg⟩ : ∃ g, g = w4.heap.size := ⟨_, rfl⟩
      generalize hq : World.setRow _ _ _ = w5
      have e2 : (w4.alloc (.cells (List.replicate 32 (bV 0)).toArray 24)).setRow w4.heap.size (B0.map bV).toArray = w5 := hq
      rw [e2] at ff hb
      rw [← hg] at ff ⊢
      clear fb1 hq e2 hg
      have F7 := Lib.hid ff
      clear ff
      have B := Lib.hid (B.out.trans (hb.mono B.out.size))
      have HKR := Lib.hid (HKR.out.below hb)
      have HL := Lib.hid (HL.out.below hb)
      have F6 := Lib.hid (row_below F6.out hb)
      clear hb
      go_wp2_with fail
      go_loop [8, 9] (fun vi vk => ∃ i K : Nat, i ≤ j + 1 ∧ K = 2 ^ i ∧ vi = .int .i64 i ∧ vk = .int .i64 K) (fun _ vk => M2 - (intOf vk).toNat)
      case atStart => exact ⟨0, 1, by omega, rfl, rfl, rfl⟩
      case round =>
        obtain ⟨i, K, hij, hKi, rfl, rfl⟩ := hrel
        have hK1 : 1 ≤ K := by rw [hKi]; exact Nat.one_le_two_pow
        have HKI := Lib.hid hKi
        clear hKi
        by_cases hKM : K < M2
        · have t7 : (K : Int) < 2 * (M : Int) := by omega
          go_wp2_with fail
          go_round
          case rel =>
            refine ⟨i + 1, 2 * K, ?_, by rw [HKI.out, Nat.pow_succ]; omega, by go_num, (congrArg (Value.int .i64) (by omega))⟩
            have h1 := HKI.out
            have h2 := HJ.out
            have h3 : 2 ^ i < 2 ^ (j + 1) := by rw [← h1, Nat.pow_succ]; omega
            have := (Nat.pow_lt_pow_iff_right (by omega)).1 h3
            omega
          case measure => simp [intOf]; omega
        · have t7 : ¬ (K : Int) < 2 * (M : Int) := by omega
          obtain ⟨q, hq⟩ : ∃ q, q = i := ⟨_, rfl⟩
          have hqj : q = j + 1 := by
            have h1 := HKI.out
            have h2 := HJ.out
            have h3 : 2 ^ (j + 1) ≤ 2 ^ i := by rw [← h1, Nat.pow_succ]; omega
            have := (Nat.pow_le_pow_iff_right (by omega)).1 h3
            omega
          obtain rfl := hq
          have HQJ := Lib.hid hqj
          have hqj1 : j + 1 ≤ q := by omega
          clear HKI hKM hK1 hqj
          obtain ⟨vc, hvc⟩ : ∃ vc, vc = sliced sp 0 M2 cap 32 := ⟨_, rfl⟩
          have HVL : Hid (HsAt w5 vc (l.take M2)) := by show HsAt _ _ _; rw [hvc]; exact HL.out.head M2 (by omega)
          have HVC := Lib.hid hvc
          clear hvc
          go_wp2_with ((with_reducible show wpList _ _ _ _ _ _); refine wpList_cutS_h rfl 22 (.tmp 45) (.tmp 47) rfl 24 32 Tryd.underlying22 (by kernel_rfl) sp n cap M2 rfl (congrArg (Value.int .i64) E2.out) (by have := HCAP.out; omega) ?_; intro vd hvd; go_frame)
          refine (path_v M (l.take M2) P vd _ HKR.out (by rw [hvd.out]; exact HL.out.head M2 (by omega)) HN2.out HM2.out HPP.out).mono ?_
          rintro e wr ⟨vp, rfl, hp, hb⟩
          have HVL := Lib.hid (HVL.out.below hb)
          have F7 := Lib.hid (row_below F7.out hb)
          have B := Lib.hid (B.out.trans (hb.mono B.out.size))
          have HKR := Lib.hid (HKR.out.below hb)
          have HL := Lib.hid (HL.out.below hb)
          have F6 := Lib.hid (row_below F6.out hb)
          clear hb
          obtain ⟨sp3, cap3, rfl⟩ := hp.shape
          rw [HPN.out, ← HQJ.out] at hp ⊢
          obtain ⟨b, o, rfl, hbw, hg⟩ := hp.get (by omega)
          have hX := hg j (by omega)
          rw [getD_any (by have := HPN.out; omega), HPA.out] at hX
          have HX := Lib.hid hX
          have wq : IntKind.i64.wrap ((q : Int) - 1) = (j : Int) := by rw [IntWalk.i64_in _ (by omega)]; omega
          have j0 : 0 ≤ (j : Int) := by omega
          have j1 : (j : Int) < (q : Int) := by omega
          have w2 : IntKind.i64.wrap (2 * (M : Int)) = 2 * (M : Int) := IntWalk.i64_in _ (by omega)
          clear hg hX hp
          go_wp2_with fail
          refine wp_region_held_drew (S := (fun w' => Below wr.heap.size wr w')) (by kernel_rfl) (Below.drew (Below.refl _ _)) (fun hHeld => ?_)
          generalize hwd : wr.drew = wd at hHeld ⊢
          clear hwd
          refine held_take (i := 0) (v := (.bool true)) rfl (by kernel_rfl) (by kernel_rfl) (by kernel_rfl) (fun _ _ _ h => h) (Or.inl ⟨by rfl, fun w' _ => by kernel_rfl⟩) hHeld ?_
          go_frame
          refine held_take (i := 1) (v := (.bool true)) rfl (by kernel_rfl) (by kernel_rfl) (by kernel_rfl) (fun _ _ _ h => h) (Or.inl ⟨by rfl, fun w' _ => by kernel_rfl⟩) hHeld ?_
          go_frame
          refine held_take (i := 2) (v := (.bool true)) rfl (by kernel_rfl) (by kernel_rfl) (by kernel_rfl) (fun _ _ _ h => h) (Or.inl ⟨by rfl, fun w' _ => by kernel_rfl⟩) hHeld ?_
          go_frame
          refine held_take (i := 3) (v := (.bool true)) rfl (by kernel_rfl) (by kernel_rfl) (by kernel_rfl) (fun _ _ _ h => h) (Or.inl ⟨by rfl, fun w' _ => by kernel_rfl⟩) hHeld ?_
          go_frame
          refine held_take (i := 4) (v := (.bool true)) rfl (by kernel_rfl) (by kernel_rfl) (by kernel_rfl) (fun _ _ _ h => h) (Or.inl ⟨by rfl, fun w' _ => by kernel_rfl⟩) hHeld ?_
          go_frame
          refine held_take (i := 5) (v := (.slice (some ⟨b, o, none⟩) q cap3)) rfl (by kernel_rfl) (by kernel_rfl) (by kernel_rfl) (fun _ _ _ h => h) (Or.inl ⟨by rfl, fun w' _ => by kernel_rfl⟩) hHeld ?_
          go_frame
          refine held_take (i := 6) (v := (.int .i64 (q : Int))) rfl (by kernel_rfl) (by kernel_rfl) (by kernel_rfl) (fun _ _ _ h => h) (Or.inl ⟨by rfl, fun w' _ => by kernel_rfl⟩) hHeld ?_
          go_frame
          refine held_take (i := 7) (v := (.int .i64 (q : Int))) rfl (by kernel_rfl) (by kernel_rfl) (by kernel_rfl) (fun _ _ _ h => h) (Or.inl ⟨by rfl, fun w' _ => by kernel_rfl⟩) hHeld ?_
          go_frame
          refine held_take (i := 8) (v := (.bool true)) rfl (by kernel_rfl) (by kernel_rfl) (by kernel_rfl) (fun _ _ _ h => h) (Or.inl ⟨by rfl, fun w' _ => by go_simp⟩) hHeld ?_
          go_frame
          refine held_take (i := 9) (v := (.bool true)) rfl (by kernel_rfl) (by kernel_rfl) (by kernel_rfl) (fun _ _ _ h => h) (Or.inl ⟨by rfl, fun w' _ => by kernel_rfl⟩) hHeld ?_
          go_frame
          refine held_take (i := 10) (v := (.bool true)) rfl (by kernel_rfl) (by kernel_rfl) (by kernel_rfl) (fun _ _ _ h => h) (Or.inl ⟨by rfl, fun w' _ => by kernel_rfl⟩) hHeld ?_
          go_frame
          refine held_take (i := 11) (v := (.slice sp n cap)) rfl (by kernel_rfl) (by kernel_rfl) (by kernel_rfl) (fun _ _ _ h => h) (Or.inl ⟨by rfl, fun w' _ => by kernel_rfl⟩) hHeld ?_
          go_frame
          refine held_take (i := 12) (v := (.int .i64 (M : Int))) rfl (by kernel_rfl) (by kernel_rfl) (by kernel_rfl) (fun _ _ _ h => h) (Or.inl ⟨by rfl, fun w' _ => by kernel_rfl⟩) hHeld ?_
          go_frame
          refine held_take (i := 13) (v := (.int .i64 (2 * (M : Int)))) rfl (by kernel_rfl) (by kernel_rfl) (by kernel_rfl) (fun _ _ _ h => h) (Or.inl ⟨by rfl, fun w' _ => by go_simp⟩) hHeld ?_
          go_frame
          refine held_take (i := 14) (v := vc) rfl (by kernel_rfl) (by kernel_rfl) (by kernel_rfl) (fun _ _ _ h => h) (yields_cutS_h (by rfl) 22 (.tmp 63) (.tmp 65) rfl 24 32 Tryd.underlying22 (by kernel_rfl) sp n cap M2 vc rfl (congrArg (Value.int .i64) E2.out) (by have := HCAP.out; omega) HVC.out) hHeld ?_
          go_frame
          refine held_take (i := 16) (v := (.agg (A.map bV).toArray)) rfl (by kernel_rfl) (by kernel_rfl) (by kernel_rfl) (fun _ _ _ h => h) (yieldsIf_load_row (by rfl) 24 (.tmp 6) rfl g6 rfl 24 (A.map bV).toArray (0, 0) _ (fun w' hw' => row_below F6.out hw') Tryd.underlying24 rfl (by rw [AS.out]; kernel_rfl)) hHeld ?_
          go_frame
          refine held_take (i := 17) (v := (.agg (B0.map bV).toArray)) rfl (by kernel_rfl) (by kernel_rfl) (by kernel_rfl) (fun _ _ _ h => h) (yieldsIf_load_row (by rfl) 24 (.tmp 7) rfl g7 rfl 24 (B0.map bV).toArray (0, 0) _ (fun w' hw' => row_below F7.out hw') Tryd.underlying24 rfl (by rw [BS.out]; kernel_rfl)) hHeld ?_
          go_frame
          refine wpAnyH_ready (rs := [15, 18]) (by kernel_rfl) (by simp) (held_cons rfl (fun K hK => ?_) (held_cons rfl (fun K hK => ?_) AllReadyH.nil))
          · skip
            rw [if_pos (by rfl)]
            go_simp
            refine (root_v (l.take M2) T _ _ (HKR.out.below hHeld) (HVL.out.below hHeld) HN2.out HRT.out).mono ?_
            rintro e v1 ⟨rfl, bb⟩
            have hv1 := hHeld.trans (bb.mono hHeld.size)
            clear bb hHeld
            go_wp2_with fail
            refine hK.out _ _ hv1 (fun hHeld => ?_)
            clear hK K hv1
            refine wpAnyH_ready (rs := [18]) (by kernel_rfl) (by simp) (held_cons rfl (fun K hK => ?_) AllReadyH.nil)
            rw [if_pos (by rfl)]
            refine wp_slice_two 22 24 (.tmp 68) (.tmp 69) rfl (A.map bV) (B0.map bV) rfl rfl Tryd.underlying22 i0 _ hi hz0 (by rw [hz1, LA.out]) (by rw [hz1, LB.out]) (by rw [LA.out]; omega) (by rw [LA.out]; omega) ?_
            have nf := heap_alloc_new v1 (.cells (A.map bV ++ B0.map bV).toArray 24 (0, 0))
            have bb := (Below.refl v1.heap.size v1).alloc (Nat.le_refl _) (.cells (A.map bV ++ B0.map bV).toArray 24 (0, 0))
            obtain ⟨gv2, hgv2⟩ : ∃ g, g = v1.heap.size := ⟨_, rfl⟩
            generalize hqv2 : World.alloc _ _ = v2
            have ev2 : v1.alloc (.cells (A.map bV ++ B0.map bV).toArray 24 (0, 0)) = v2 := hqv2
            rw [ev2] at nf bb
            rw [← hgv2] at nf ⊢
            have NF := Lib.hid nf
            have hv2 := hHeld.trans (bb.mono hHeld.size)
            clear nf bb hqv2 ev2 hgv2 hHeld
            go_frame
            refine hK.out _ _ hv2 (fun hHeld => ?_)
            clear hK K hv2
            refine wpAnyH_ready (rs := [19]) (by kernel_rfl) (by simp) (held_cons rfl (fun K hK => ?_) AllReadyH.nil)
            rw [if_pos (by rfl)]
            go_simp
            refine (root_v [A, B0] T _ _ (HKR.out.below hHeld) (hs_box2 NF.out LAL.out LBL.out) (by simp) HRAB.out).mono ?_
            rintro e v3 ⟨rfl, bb⟩
            have NF := Lib.hid (row_below NF.out bb)
            have hv3 := hHeld.trans (bb.mono hHeld.size)
            clear bb hHeld
            go_wp2_with fail
            refine hK.out _ _ hv3 (fun hHeld => ?_)
            clear hK K hv3
            refine wpAnyH_ready (rs := [20]) (by kernel_rfl) (by simp) (held_cons rfl (fun K hK => ?_) AllReadyH.nil)
            rw [if_pos (by rfl)]
            go_simp
            refine (same_v T T true HTL.out HTL.out (by simp) _).mono ?_
            rintro e v4 ⟨rfl, bb⟩
            have NF := Lib.hid (row_below NF.out bb)
            have hv4 := hHeld.trans (bb.mono hHeld.size)
            clear bb hHeld
            go_wp2_with fail
            refine hK.out _ _ hv4 (fun hHeld => ?_)
            clear hK K hv4
            refine held_take (i := 21) (v := (.bool true)) rfl (by kernel_rfl) (by kernel_rfl) (by kernel_rfl) (fun _ _ _ h => h) (Or.inl ⟨by rfl, fun w' _ => by kernel_rfl⟩) hHeld ?_
            go_frame
            refine held_take (i := 22) (v := (.bool true)) rfl (by kernel_rfl) (by kernel_rfl) (by kernel_rfl) (fun _ _ _ h => h) (Or.inl ⟨by rfl, fun w' _ => by kernel_rfl⟩) hHeld ?_
            go_frame
            refine held_take (i := 23) (v := (.slice (some ⟨b, o, none⟩) q cap3)) rfl (by kernel_rfl) (by kernel_rfl) (by kernel_rfl) (fun _ _ _ h => h) (Or.inl ⟨by rfl, fun w' _ => by kernel_rfl⟩) hHeld ?_
            go_frame
            refine held_take (i := 24) (v := (.slice (some ⟨b, o, none⟩) q cap3)) rfl (by kernel_rfl) (by kernel_rfl) (by kernel_rfl) (fun _ _ _ h => h) (Or.inl ⟨by rfl, fun w' _ => by kernel_rfl⟩) hHeld ?_
            go_frame
            refine held_take (i := 25) (v := (.int .i64 (q : Int))) rfl (by kernel_rfl) (by kernel_rfl) (by kernel_rfl) (fun _ _ _ h => h) (Or.inl ⟨by rfl, fun w' _ => by kernel_rfl⟩) hHeld ?_
            go_frame
            refine held_take (i := 26) (v := (.int .i64 (j : Int))) rfl (by kernel_rfl) (by kernel_rfl) (by kernel_rfl) (fun _ _ _ h => h) (Or.inl ⟨by rfl, fun w' _ => by go_simp⟩) hHeld ?_
            go_frame
            refine held_take (i := 27) (v := (.pointer (some ⟨b, o + j * 32, none⟩))) rfl (by kernel_rfl) (by kernel_rfl) (by kernel_rfl) (fun _ _ _ h => h) (Or.inl ⟨by rfl, fun w' _ => by go_simp⟩) hHeld ?_
            go_frame
            refine held_take (i := 28) (v := (.agg (A.map bV).toArray)) rfl (by kernel_rfl) (by kernel_rfl) (by kernel_rfl) (fun _ _ _ h => h) (Sha.yieldsIf_load_mid (by rfl) 24 (.tmp 79) rfl b (o + j * 32) rfl (A.map bV) _ (fun w' hw' => range_below HX.out hw') Tryd.underlying24 rfl (by rw [LA.out]; kernel_rfl)) hHeld ?_
            go_frame
            refine held_take (i := 29) (v := (.agg (A.map bV).toArray)) rfl (by kernel_rfl) (by kernel_rfl) (by kernel_rfl) (fun _ _ _ h => h) (yieldsIf_load_row (by rfl) 24 (.tmp 6) rfl g6 rfl 24 (A.map bV).toArray (0, 0) _ (fun w' hw' => row_below F6.out hw') Tryd.underlying24 rfl (by rw [AS.out]; kernel_rfl)) hHeld ?_
            go_frame
            refine wpAnyH_ready (rs := [30]) (by kernel_rfl) (by simp) (held_cons rfl (fun K hK => ?_) AllReadyH.nil)
            rw [if_pos (by rfl)]
            go_simp
            refine (same_v A A true LAL.out LAL.out (by simp) _).mono ?_
            rintro e v5 ⟨rfl, bb⟩
            have NF := Lib.hid (row_below NF.out bb)
            have hv5 := hHeld.trans (bb.mono hHeld.size)
            clear bb hHeld
            go_wp2_with fail
            refine hK.out _ _ hv5 (fun hHeld => ?_)
            clear hK K hv5
            refine held_take (i := 31) (v := (.bool true)) rfl (by kernel_rfl) (by kernel_rfl) (by kernel_rfl) (fun _ _ _ h => h) (Or.inl ⟨by rfl, fun w' _ => by kernel_rfl⟩) hHeld ?_
            go_frame
            refine held_take (i := 32) (v := (.bool true)) rfl (by kernel_rfl) (by kernel_rfl) (by kernel_rfl) (fun _ _ _ h => h) (Or.inl ⟨by rfl, fun w' _ => by kernel_rfl⟩) hHeld ?_
            go_frame
            refine wpAnyH_done (by kernel_rfl) ?_ _
            have B9 := Lib.hid (B.out.trans (hHeld.mono B.out.size))
            clear hHeld
            go_wp2_with fail
            go_ret
            exact ⟨rfl, B9.out⟩
          · skip
            rw [if_pos (by rfl)]
            refine wp_slice_two 22 24 (.tmp 68) (.tmp 69) rfl (A.map bV) (B0.map bV) rfl rfl Tryd.underlying22 i0 _ hi hz0 (by rw [hz1, LA.out]) (by rw [hz1, LB.out]) (by rw [LA.out]; omega) (by rw [LA.out]; omega) ?_
            have nf := heap_alloc_new wd (.cells (A.map bV ++ B0.map bV).toArray 24 (0, 0))
            have bb := (Below.refl wd.heap.size wd).alloc (Nat.le_refl _) (.cells (A.map bV ++ B0.map bV).toArray 24 (0, 0))
            obtain ⟨gv6, hgv6⟩ : ∃ g, g = wd.heap.size := ⟨_, rfl⟩
            generalize hqv6 : World.alloc _ _ = v6
            have ev6 : wd.alloc (.cells (A.map bV ++ B0.map bV).toArray 24 (0, 0)) = v6 := hqv6
            rw [ev6] at nf bb
            rw [← hgv6] at nf ⊢
            have NF := Lib.hid nf
            have hv6 := hHeld.trans (bb.mono hHeld.size)
            clear nf bb hqv6 ev6 hgv6 hHeld
            go_frame
            refine hK.out _ _ hv6 (fun hHeld => ?_)
            clear hK K hv6
            refine wpAnyH_ready (rs := [15]) (by kernel_rfl) (by simp) (held_cons rfl (fun K hK => ?_) AllReadyH.nil)
            rw [if_pos (by rfl)]
            go_simp
            refine (root_v (l.take M2) T _ _ (HKR.out.below hHeld) (HVL.out.below hHeld) HN2.out HRT.out).mono ?_
            rintro e v7 ⟨rfl, bb⟩
            have NF := Lib.hid (row_below NF.out bb)
            have hv7 := hHeld.trans (bb.mono hHeld.size)
            clear bb hHeld
            go_wp2_with fail
            refine hK.out _ _ hv7 (fun hHeld => ?_)
            clear hK K hv7
            refine wpAnyH_ready (rs := [19]) (by kernel_rfl) (by simp) (held_cons rfl (fun K hK => ?_) AllReadyH.nil)
            rw [if_pos (by rfl)]
            go_simp
            refine (root_v [A, B0] T _ _ (HKR.out.below hHeld) (hs_box2 NF.out LAL.out LBL.out) (by simp) HRAB.out).mono ?_
            rintro e v8 ⟨rfl, bb⟩
            have NF := Lib.hid (row_below NF.out bb)
            have hv8 := hHeld.trans (bb.mono hHeld.size)
            clear bb hHeld
            go_wp2_with fail
            refine hK.out _ _ hv8 (fun hHeld => ?_)
            clear hK K hv8
            refine wpAnyH_ready (rs := [20]) (by kernel_rfl) (by simp) (held_cons rfl (fun K hK => ?_) AllReadyH.nil)
            rw [if_pos (by rfl)]
            go_simp
            refine (same_v T T true HTL.out HTL.out (by simp) _).mono ?_
            rintro e v9 ⟨rfl, bb⟩
            have NF := Lib.hid (row_below NF.out bb)
            have hv9 := hHeld.trans (bb.mono hHeld.size)
            clear bb hHeld
            go_wp2_with fail
            refine hK.out _ _ hv9 (fun hHeld => ?_)
            clear hK K hv9
            refine held_take (i := 21) (v := (.bool true)) rfl (by kernel_rfl) (by kernel_rfl) (by kernel_rfl) (fun _ _ _ h => h) (Or.inl ⟨by rfl, fun w' _ => by kernel_rfl⟩) hHeld ?_
            go_frame
            refine held_take (i := 22) (v := (.bool true)) rfl (by kernel_rfl) (by kernel_rfl) (by kernel_rfl) (fun _ _ _ h => h) (Or.inl ⟨by rfl, fun w' _ => by kernel_rfl⟩) hHeld ?_
            go_frame
            refine held_take (i := 23) (v := (.slice (some ⟨b, o, none⟩) q cap3)) rfl (by kernel_rfl) (by kernel_rfl) (by kernel_rfl) (fun _ _ _ h => h) (Or.inl ⟨by rfl, fun w' _ => by kernel_rfl⟩) hHeld ?_
            go_frame
            refine held_take (i := 24) (v := (.slice (some ⟨b, o, none⟩) q cap3)) rfl (by kernel_rfl) (by kernel_rfl) (by kernel_rfl) (fun _ _ _ h => h) (Or.inl ⟨by rfl, fun w' _ => by kernel_rfl⟩) hHeld ?_
            go_frame
            refine held_take (i := 25) (v := (.int .i64 (q : Int))) rfl (by kernel_rfl) (by kernel_rfl) (by kernel_rfl) (fun _ _ _ h => h) (Or.inl ⟨by rfl, fun w' _ => by kernel_rfl⟩) hHeld ?_
            go_frame
            refine held_take (i := 26) (v := (.int .i64 (j : Int))) rfl (by kernel_rfl) (by kernel_rfl) (by kernel_rfl) (fun _ _ _ h => h) (Or.inl ⟨by rfl, fun w' _ => by go_simp⟩) hHeld ?_
            go_frame
            refine held_take (i := 27) (v := (.pointer (some ⟨b, o + j * 32, none⟩))) rfl (by kernel_rfl) (by kernel_rfl) (by kernel_rfl) (fun _ _ _ h => h) (Or.inl ⟨by rfl, fun w' _ => by go_simp⟩) hHeld ?_
            go_frame
            refine held_take (i := 28) (v := (.agg (A.map bV).toArray)) rfl (by kernel_rfl) (by kernel_rfl) (by kernel_rfl) (fun _ _ _ h => h) (Sha.yieldsIf_load_mid (by rfl) 24 (.tmp 79) rfl b (o + j * 32) rfl (A.map bV) _ (fun w' hw' => range_below HX.out hw') Tryd.underlying24 rfl (by rw [LA.out]; kernel_rfl)) hHeld ?_
            go_frame
            refine held_take (i := 29) (v := (.agg (A.map bV).toArray)) rfl (by kernel_rfl) (by kernel_rfl) (by kernel_rfl) (fun _ _ _ h => h) (yieldsIf_load_row (by rfl) 24 (.tmp 6) rfl g6 rfl 24 (A.map bV).toArray (0, 0) _ (fun w' hw' => row_below F6.out hw') Tryd.underlying24 rfl (by rw [AS.out]; kernel_rfl)) hHeld ?_
            go_frame
            refine wpAnyH_ready (rs := [30]) (by kernel_rfl) (by simp) (held_cons rfl (fun K hK => ?_) AllReadyH.nil)
            rw [if_pos (by rfl)]
            go_simp
            refine (same_v A A true LAL.out LAL.out (by simp) _).mono ?_
            rintro e v10 ⟨rfl, bb⟩
            have NF := Lib.hid (row_below NF.out bb)
            have hv10 := hHeld.trans (bb.mono hHeld.size)
            clear bb hHeld
            go_wp2_with fail
            refine hK.out _ _ hv10 (fun hHeld => ?_)
            clear hK K hv10
            refine held_take (i := 31) (v := (.bool true)) rfl (by kernel_rfl) (by kernel_rfl) (by kernel_rfl) (fun _ _ _ h => h) (Or.inl ⟨by rfl, fun w' _ => by kernel_rfl⟩) hHeld ?_
            go_frame
            refine held_take (i := 32) (v := (.bool true)) rfl (by kernel_rfl) (by kernel_rfl) (by kernel_rfl) (fun _ _ _ h => h) (Or.inl ⟨by rfl, fun w' _ => by kernel_rfl⟩) hHeld ?_
            go_frame
            refine wpAnyH_done (by kernel_rfl) ?_ _
            have B9 := Lib.hid (B.out.trans (hHeld.mono B.out.size))
            clear hHeld
            go_wp2_with fail
            go_ret
            exact ⟨rfl, B9.out⟩
end Go.Proofs.YtaeebcedobkopaaDoor.Sha

/-
  The statements' own SameHashes tells whether two rows of digests are the same. Nothing that was there turns. Conditions: the digests lie where the slices say.
-/
namespace Go.Proofs.YtaeebcedobkopaaDoor.Sha
open Go Go.RowKit
theorem rows_same {a b : List (List UInt8)} {n : Nat} (h1 : a.length = n) (h2 : b.length = n) (h : ∀ j, j < n → a.getD j [] = b.getD j []) : a = b := by
  apply List.ext_getElem (by omega)
  intro i k1 k2
  have := h i (by omega)
  simpa [List.getD, List.getElem?_eq_getElem k1, List.getElem?_eq_getElem k2] using this
def smhInv (a b : List (List UInt8)) (w : World) (vi : Value) (wr : World) : Prop :=
  ∃ k : Nat, k ≤ a.length ∧ vi = .int .i64 k ∧ (∀ j, j < k → a.getD j [] = b.getD j []) ∧ Below w.heap.size w wr
set_option maxHeartbeats 2000000 in
set_option maxRecDepth 100000 in
theorem samehs_any (x y : List (List UInt8)) (sp sq : Option Addr) (n m cap cbp : Nat) (w : World) (hx : HsAt w (.slice sp n cap) x) (hy : HsAt w (.slice sq m cbp) y) (hn : n ≤ 1048576) (r : Bool) (hr : r = true ↔ x = y) :
    Calls Tryd.prog 16 #[.slice sp n cap, .slice sq m cbp] w fun e w' => e = .returned (.bool r) ∧ Below w.heap.size w w' := by
  have HNX := Lib.hid hx.len.1
  have HNY := Lib.hid hy.len.1
  have HX := Lib.hid hx
  have HY := Lib.hid hy
  have HR := Lib.hid hr
  clear hx hy hr
  by_cases hnm : n = m
  · obtain rfl := hnm
    go_enter Tryd.func16, Tryd.ntmps16
    go_wp2_with fail
    go_loopw [5] (fun vi wr => smhInv x y w vi wr) (fun vi _ => n - (intOf vi).toNat)
    case atStart => exact ⟨0, Nat.zero_le _, rfl, fun j hj => by omega, Below.refl _ _⟩
    case round =>
      obtain ⟨k, hk, rfl, he, hb⟩ := hrel
      have HE := Lib.hid he
      have B := Lib.hid hb
      clear he hb
      by_cases hlt : k < n
      · obtain ⟨b, o, rfl, hbw, hg⟩ := (HX.out.below B.out).get (by omega)
        obtain ⟨b2, o2, rfl, hbw2, hg2⟩ := (HY.out.below B.out).get (by omega)
        obtain ⟨u, hu⟩ : ∃ u, u = x.getD k [] := ⟨_, rfl⟩
        obtain ⟨v, hv⟩ : ∃ v, v = y.getD k [] := ⟨_, rfl⟩
        have RX := Lib.hid (hg k hlt)
        have RY := Lib.hid (hg2 k hlt)
        rw [← hu] at RX
        rw [← hv] at RY
        have lu : u.length = 32 := by rw [hu]; exact HX.out.1.get (by have := HNX.out; omega)
        have lv : v.length = 32 := by rw [hv]; exact HY.out.1.get (by have := HNY.out; omega)
        have LUL := Lib.hid lu
        have LVL := Lib.hid lv
        have LU : Hid ((u.map bV).length = 32) := by show _ = _; rw [List.length_map, lu]
        have LV : Hid ((v.map bV).length = 32) := by show _ = _; rw [List.length_map, lv]
        have HU := Lib.hid hu
        have HV := Lib.hid hv
        have p0 : 0 ≤ (k : Int) := by omega
        have q0 : (k : Int) < (n : Int) := by omega
        obtain ⟨d, hd⟩ : ∃ d, d = decide (u = v) := ⟨_, rfl⟩
        have SM : Hid (∀ w', Calls Tryd.prog 13 #[.agg (u.map bV).toArray, .agg (v.map bV).toArray] w' (SmPost d w')) := fun w' => by rw [hd]; exact same_any u v LUL.out LVL.out w'
        have HD := Lib.hid hd
        clear hg hg2 hu hv lu lv hd
        go_wp2_with fail
        refine wp_region_held_drew (S := (fun w' => Below w.heap.size w w' ∧ Below wr.heap.size wr w')) (by kernel_rfl) ⟨Below.drew B.out, Below.drew (Below.refl _ _)⟩ (fun hHeld => ?_)
        refine held_take (i := 0) (v := (.slice (some ⟨b, o, none⟩) n cap)) rfl (by kernel_rfl) (by kernel_rfl) (by kernel_rfl) (fun _ _ _ h => h) (Or.inl ⟨by rfl, fun w' _ => by kernel_rfl⟩) hHeld ?_
        go_frame
        refine held_take (i := 1) (v := (.int .i64 (k : Int))) rfl (by kernel_rfl) (by kernel_rfl) (by kernel_rfl) (fun _ _ _ h => h) (Or.inl ⟨by rfl, fun w' _ => by kernel_rfl⟩) hHeld ?_
        go_frame
        refine held_take (i := 2) (v := (.pointer (some ⟨b, o + k * 32, none⟩))) rfl (by kernel_rfl) (by kernel_rfl) (by kernel_rfl) (fun _ _ _ h => h) (Or.inl ⟨by rfl, fun w' _ => by go_simp⟩) hHeld ?_
        go_frame
        refine held_take (i := 3) (v := (.agg (u.map bV).toArray)) rfl (by kernel_rfl) (by kernel_rfl) (by kernel_rfl) (fun _ _ _ h => h) (Sha.yieldsIf_load_mid (by rfl) 24 (.tmp 20) rfl b (o + k * 32) rfl (u.map bV) _ (fun w' hw' => range_below RX.out hw'.2) Tryd.underlying24 rfl (by rw [LU.out]; kernel_rfl)) hHeld ?_
        go_frame
        refine held_take (i := 4) (v := (.slice (some ⟨b2, o2, none⟩) n cbp)) rfl (by kernel_rfl) (by kernel_rfl) (by kernel_rfl) (fun _ _ _ h => h) (Or.inl ⟨by rfl, fun w' _ => by kernel_rfl⟩) hHeld ?_
        go_frame
        refine held_take (i := 5) (v := (.int .i64 (k : Int))) rfl (by kernel_rfl) (by kernel_rfl) (by kernel_rfl) (fun _ _ _ h => h) (Or.inl ⟨by rfl, fun w' _ => by kernel_rfl⟩) hHeld ?_
        go_frame
        refine held_take (i := 6) (v := (.pointer (some ⟨b2, o2 + k * 32, none⟩))) rfl (by kernel_rfl) (by kernel_rfl) (by kernel_rfl) (fun _ _ _ h => h) (Or.inl ⟨by rfl, fun w' _ => by go_simp⟩) hHeld ?_
        go_frame
        refine held_take (i := 7) (v := (.agg (v.map bV).toArray)) rfl (by kernel_rfl) (by kernel_rfl) (by kernel_rfl) (fun _ _ _ h => h) (Sha.yieldsIf_load_mid (by rfl) 24 (.tmp 24) rfl b2 (o2 + k * 32) rfl (v.map bV) _ (fun w' hw' => range_below RY.out hw'.2) Tryd.underlying24 rfl (by rw [LV.out]; kernel_rfl)) hHeld ?_
        go_frame
        refine wpAnyH_ready (rs := [8]) (by kernel_rfl) (by simp) (held_cons rfl (fun K hK => ?_) AllReadyH.nil)
        go_simp
        refine (SM.out _).mono ?_
        rintro e w4 ⟨rfl, bb⟩
        have hw4 := And.intro (hHeld.1.trans (bb.mono hHeld.1.size)) (hHeld.2.trans (bb.mono hHeld.2.size))
        clear bb hHeld
        go_wp2_with fail
        refine hK.out _ _ hw4 (fun hHeld => ?_)
        clear hK K hw4
        refine held_take (i := 9) (v := .bool d) rfl (by kernel_rfl) (by kernel_rfl) (by kernel_rfl) (fun _ _ _ h => h) (Or.inl ⟨by rfl, fun w' _ => by kernel_rfl⟩) hHeld ?_
        go_frame
        refine wpAnyH_done (by kernel_rfl) ?_ _
        have B4 := Lib.hid hHeld.1
        clear hHeld
        by_cases huv : u = v
        · obtain rfl : d = true := by rw [HD.out]; exact decide_eq_true huv
          have HUV := Lib.hid huv
          clear huv SM
          go_wp2_with fail
          go_roundw
          case rel =>
            refine ⟨k + 1, by have := HNX.out; omega, by go_num, fun j hj => ?_, B4.out⟩
            by_cases hj2 : j < k
            · exact HE.out j hj2
            · obtain rfl : j = k := by omega
              rw [← HU.out, ← HV.out, HUV.out]
          case measure => simp [intOf]; omega
        · obtain rfl : d = false := by rw [HD.out]; exact decide_eq_false huv
          have hrf : r = false := by
            cases h : r with
            | false => rfl
            | true => exact absurd (by rw [HU.out, HV.out, HR.out.1 h]) huv
          have HRF := Lib.hid hrf
          clear huv SM hrf
          go_wp2_with fail
          go_ret
          exact ⟨by rw [HRF.out]; rfl, B4.out⟩
      · have hge : ¬ (k : Int) < (n : Int) := by omega
        have hrt : r = true := HR.out.2 (rows_same HNX.out.symm HNY.out.symm (fun j hj => HE.out j (by omega)))
        have HRT := Lib.hid hrt
        clear hrt
        go_wp2_with fail
        go_ret
        exact ⟨by rw [HRT.out]; rfl, B.out⟩
  · have t0 : ((n : Int) != (m : Int)) = true := by rw [bne_iff_ne]; omega
    have hrf : r = false := by
      cases h : r with
      | false => rfl
      | true => exact absurd (by rw [HNX.out, HNY.out, HR.out.1 h]) hnm
    have HRF := Lib.hid hrf
    clear hrf hnm
    go_enter Tryd.func16, Tryd.ntmps16
    go_wp2_with fail
    go_ret
    exact ⟨by rw [HRF.out]; rfl, Below.refl _ _⟩
theorem samehs_v (x y : List (List UInt8)) (v u : Value) (w : World) (hx : HsAt w v x) (hy : HsAt w u y) (hn : x.length ≤ 1048576) (r : Bool) (hr : r = true ↔ x = y) :
    Calls Tryd.prog 16 #[v, u] w fun e w' => e = .returned (.bool r) ∧ Below w.heap.size w w' := by
  obtain ⟨sp, cap, rfl⟩ := hx.shape
  obtain ⟨sq, cbp, rfl⟩ := hy.shape
  exact samehs_any x y sp sq _ _ cap cbp w hx hy hn r hr
end Go.Proofs.YtaeebcedobkopaaDoor.Sha

/-
  A byte with bits turned. No conditions.
-/
namespace Go.Proofs.YtaeebcedobkopaaDoor.Sha
open Go Go.RowKit
theorem bv_xor (x y : UInt8) : bits .xor .u8 (bv x) (bv y) = bv (x ^^^ y) := by
  unfold bv
  rw [u8_xor_nat _ _ x.toNat_lt y.toNat_lt, UInt8.toNat_xor]
theorem bv_pow (t : Nat) : (2 : Int) ^ t % 256 = bv (UInt8.ofNat (2 ^ t)) := by
  unfold bv
  rw [UInt8.toNat_ofNat']
  simp
end Go.Proofs.YtaeebcedobkopaaDoor.Sha

/-
  slices.Clone copies rows of inputs and of outputs; a cell of a row of one's own is stored into. Conditions: the rows lie in memory; fewer than a million.
-/
namespace Go.Proofs.YtaeebcedobkopaaDoor.Sha
open Go Go.RowKit
theorem wp_store_own {P : Program} {op : Oper} {a : Act} {w : World} {K : Act → World → Prop} {Q : Exit → Act → World → Prop} (ty : TypeId) (x y : Operand) (ho : op.op = .store ty x y)
    (g j base size n cap : Nat) (e : TypeId) (xs : List Value) (v : Value) (hx : a.eval x = .pointer (some ⟨g, j, none⟩)) (hy : a.eval y = v) (h1 : v.oneCell' = true) (hi : (P.info? ty).map (·.size) = some 1)
    (hown : w.ownsRow base e size (.slice (some ⟨g, 0, none⟩) n cap) n xs) (hj : j < n * size)
    (h : ∀ w', w'.ownsRow base e size (.slice (some ⟨g, 0, none⟩) n cap) n (xs.set j v) → w.grownBy w' (some g) → K (a.put op.dst undef) w') : op.wp P a w K Q := by
  rcases hown.2 with ⟨h', _⟩ | ⟨g', cap', cur, h', hb, hg, hnc, hcm, hcs, htake⟩
  · simp at h'
  simp only [Value.slice.injEq, Option.some.injEq, Addr.mk.injEq, and_true, true_and] at h'
  obtain ⟨rfl, rfl⟩ := h'
  have hjc : j < cur.toList.length := by
    rw [Array.length_toList, hcs]
    exact Nat.lt_of_lt_of_le hj (Nat.mul_le_mul_right _ hnc)
  have hsplit : cur.toList = cur.toList.take j ++ [cur.toList[j]] ++ cur.toList.drop (j + 1) := by
    rw [List.append_assoc, List.singleton_append, ← List.drop_eq_getElem_cons hjc, List.take_append_drop]
  have hset : (cur.toList.take j ++ [v] ++ cur.toList.drop (j + 1)) = cur.toList.set j v := by
    rw [List.append_assoc, List.singleton_append, List.set_eq_take_append_cons_drop, if_pos hjc]
  refine wp_store_part ty x y ho g j (cur.toList.take j) [cur.toList[j]] (cur.toList.drop (j + 1)) [v] e v hx hy (cells_one h1) (by rw [List.length_take]; omega) rfl (by rw [← hsplit, Array.toArray_toList]; exact hg) hi (one_mem h1) ?_
  intro w' q1 q2
  refine h w' ⟨by rw [List.length_set]; exact hown.1, .inr ⟨g, cap, _, rfl, hb, q1, hnc, hcm, ?_, ?_⟩⟩ q2
  · rw [hset]
    simpa using hcs
  · rw [hset, ← htake]
    simp [List.take_set]
end Go.Proofs.YtaeebcedobkopaaDoor.Sha

/-
  The statement on a copy of one's own answers true: what is done to the one copy stands in no other, nor in the first. Condition: the transaction lies in memory.
-/
namespace Go.Proofs.YtaeebcedobkopaaDoor.Sha
open Go Go.RowKit
theorem own_shape0 {w : World} {base size n : Nat} {e : TypeId} {v : Value} {xs : List Value} (h : w.ownsRow base e size v n xs) (hn : 0 < n) : ∃ g cap, v = .slice (some ⟨g, 0, none⟩) n cap ∧ v.ownBlock = some g := by
  rcases h.2 with ⟨_, h0⟩ | ⟨g, cap, _, e, _⟩
  · omega
  · exact ⟨g, cap, e, by rw [e]; rfl⟩
section
variable {base base2 base3 : Nat} {w w' : World} {iv ov kv0 : Value} {x0 : TIn} {xs : List TIn} {y0 : TOut} {ys : List TOut} {ks : List Value}
end
section
variable {W w w' : World} {g4 g5 : Nat} {t : TTx} {iv ov ivc ovc kv0 ivd ovd : Value} {bc bc2 bc3 bd : Nat} {x0 x1 : TIn} {xs : List TIn} {y0 y1 : TOut} {ys : List TOut} {ks ksd : List Value}
end
end Go.Proofs.YtaeebcedobkopaaDoor.Sha
