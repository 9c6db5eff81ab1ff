/-
  Texts of this proof joined into one file: MkTurnedWalk, MkPair, MkRowRef, MkRootRef, MkPathRef. What each holds, and under which conditions, its own first sentence tells.
-/
import Derived.IntWalk
import Derived.Test.YtaeebcedobkopaaDoorMg07
import Derived.Test.YtaeebcedobkopaaDoorMg08
import Derived.Test.YtaeebcedobkopaaDoorMg01
import Derived.Test.YtaeebcedobkopaaDoorMg10
import Derived.Test.YtaeebcedobkopaaDoorMg04
/-
  The statement on a turned leaf answers true. Nothing that was there turns. Conditions: digests of 32 bytes, the table is there.
-/
namespace Go.Proofs.YtaeebcedobkopaaDoor.Sha
open Go Go.RowKit
set_option maxHeartbeats 2000000 in
set_option maxRecDepth 100000 in
theorem merkleturned_main (l : List (List UInt8)) (v : Value) (at_ bit : Int) (w : World) (hl : HsAt w v l) (hm : l.length ≤ 9223372036854775807) (hi64 : -9223372036854775808 ≤ at_ ∧ at_ ≤ 9223372036854775807) (hb64 : -9223372036854775808 ≤ bit ∧ bit ≤ 9223372036854775807) (hk : KTab w) :
    Calls Tryd.prog 6 #[v, .int .i64 at_, .int .i64 bit] w fun e w' => e = .returned (.bool true) ∧ Below w.heap.size w w' := by
  obtain ⟨i0, hi, hz0, hz1, hz2⟩ := info_parts info_hash
  obtain ⟨sp, cap, rfl⟩ := hl.shape
  obtain ⟨n, hn⟩ : ∃ n, n = l.length := ⟨_, rfl⟩
  rw [← hn] at hl hm ⊢
  have HN := Lib.hid hn
  have HL0 := Lib.hid hl
  have HK := Lib.hid hk
  clear hl hn hk
  have n0 : 0 ≤ (n : Int) := by omega
  by_cases h0 : n = 0
  · have t0 : ((n : Int) == 0) = true := by rw [beq_iff_eq]; omega
    clear h0
    go_enter Tryd.func6, Tryd.ntmps6
    go_wp2_with (go_at_call 8; refine (first6 w HK.out).mono ?_; rintro e wr ⟨rfl, hb1⟩; have B := Lib.hid hb1; have HKR := Lib.hid (HK.out.below hb1); have HL := Lib.hid (HL0.out.below hb1); clear hb1)
    go_ret
    exact ⟨rfl, B.out⟩
  have t0 : ((n : Int) == 0) = false := by rw [beq_eq_false_iff_ne]; omega
  by_cases h40 : n > 40
  · have t1 : (n : Int) > 40 := by omega
    go_enter Tryd.func6, Tryd.ntmps6
    go_wp2_with (go_at_call 8; refine (first6 w HK.out).mono ?_; rintro e wr ⟨rfl, hb1⟩; have B := Lib.hid hb1; have HKR := Lib.hid (HK.out.below hb1); have HL := Lib.hid (HL0.out.below hb1); clear hb1)
    go_ret
    exact ⟨rfl, B.out⟩
  have t1 : ¬ (n : Int) > 40 := by omega
  obtain ⟨k, hk, hkn⟩ := numb_nat at_ n (by omega)
  have HKN := Lib.hid hk
  obtain ⟨r, hr, hr256⟩ := numb_nat bit 256 (by omega)
  have HRN : Hid (numb bit 256 = (r : Int)) := hr
  obtain ⟨e, he⟩ : ∃ e, e = r / 8 := ⟨_, rfl⟩
  obtain ⟨s, hs⟩ : ∃ s, s = r % 8 := ⟨_, rfl⟩
  have he32 : e < 32 := by omega
  have HE32 := Lib.hid he32
  have hs8 : s < 8 := by omega
  have q1 : (r : Int).tdiv 8 = (e : Int) := by rw [Int.tdiv_eq_ediv_of_nonneg (by omega)]; omega
  have q2 : (r : Int) / 8 = (e : Int) := by omega
  have m1 : (r : Int).tmod 8 = (s : Int) := by rw [Int.tmod_eq_emod_of_nonneg (by omega)]; omega
  have m2 : (r : Int) % 8 = (s : Int) := by omega
  obtain ⟨x, hx⟩ : ∃ x, l[k]? = some x := ⟨_, List.getElem?_eq_getElem (by have := HN.out; omega)⟩
  have lx : x.length = 32 := HL0.out.1 x (List.mem_of_getElem? hx)
  obtain ⟨xe, hxe⟩ : ∃ xe, x[e]? = some xe := ⟨_, List.getElem?_eq_getElem (by omega)⟩
  obtain ⟨y, hy⟩ : ∃ y, y = xe ^^^ UInt8.ofNat (2 ^ s) := ⟨_, rfl⟩
  have hx1 : bits .xor .u8 (bv xe) ((2 : Int) ^ s % 256) = bv y := by rw [bv_pow, bv_xor, hy]
  obtain ⟨z, hz⟩ : ∃ z, z = x.set e y := ⟨_, rfl⟩
  have HZL : Hid (z.length = 32) := by show _ = _; rw [hz, List.length_set]; exact lx
  have LZM : Hid ((z.map bV).length = 32) := by show _ = _; rw [List.length_map]; exact HZL.out
  obtain ⟨ml, hml⟩ : ∃ ml, ml = l.set k z := ⟨_, rfl⟩
  have HMN : Hid (ml.length = n) := by show _ = _; rw [hml, List.length_set]; exact HN.out.symm
  have HMOK : Hid (HsOk ml) := by show HsOk ml; rw [hml]; exact HL0.out.1.set k HZL.out
  have HGZ : Hid (ml.getD k zM = z) := by
    show _ = _
    rw [hml, List.getD_eq_getElem?_getD, List.getElem?_set_self (by have := HN.out; omega)]
    rfl
  obtain ⟨P, hP⟩ : ∃ P, P = pathL prH zM k l := ⟨_, rfl⟩
  obtain ⟨Q, hQ⟩ : ∃ Q, Q = pathL prH zM k ml := ⟨_, rfl⟩
  have HPP : Hid (pathL prH zM k l = P) := hP.symm
  have HQQ : Hid (pathL prH zM k ml = Q) := hQ.symm
  have hpq : P.length = rowsN n := by rw [hP]; exact pathL_length prH zM n l k HN.out.symm
  have hqq : Q.length = rowsN n := by rw [hQ]; exact pathL_length prH zM n ml k HMN.out
  have hq20 : rowsN n ≤ 20 := rowsN_le n 20 (by omega)
  obtain ⟨X, hX⟩ : ∃ X, X = climbL prH z k P := ⟨_, rfl⟩
  obtain ⟨Y, hY⟩ : ∃ Y, Y = climbL prH z k Q := ⟨_, rfl⟩
  have HXC : Hid (climbL prH z k P = X) := hX.symm
  have HYC : Hid (climbL prH z k Q = Y) := hY.symm
  have HXL : Hid (X.length = 32) := by show _ = _; rw [hX]; exact climbL_len _ _ _ HZL.out
  have HYL : Hid (Y.length = 32) := by show _ = _; rw [hY]; exact climbL_len _ _ _ HZL.out
  have XS : Hid ((X.map bV).toArray.size = 32) := by show _ = _; rw [List.size_toArray, List.length_map]; exact HXL.out
  have YS : Hid ((Y.map bV).toArray.size = 32) := by show _ = _; rw [List.size_toArray, List.length_map]; exact HYL.out
  have HYR : Hid (rootL prH zM ml = Y) := by
    show _ = _
    have h := climb_path prH zM n ml k HMN.out hkn
    rw [HGZ.out, ← hQ, ← hY] at h
    exact h.symm
  have HPXY : Hid (P = Q → X = Y) := by
    show _ → _
    intro h
    rw [hX, hY, h]
  have HN60 : Hid (l.length ≤ 1048576) := by show _ ≤ _; have := HN.out; omega
  have HMN60 : Hid (ml.length ≤ 1048576) := by show _ ≤ _; have := HMN.out; omega
  have HPN := Lib.hid hpq
  have HQN := Lib.hid hqq
  have HPL : Hid (P.length ≤ 1048576) := by show _ ≤ _; omega
  have HXG := Lib.hid hx
  have HXE := Lib.hid hxe
  have HZ := Lib.hid hz
  have HML := Lib.hid hml
  have HKL2 : Hid (k < l.length) := by show _ < _; rw [← HN.out]; exact hkn
  have HKL3 : Hid (k < ml.length) := by show _ < _; rw [HMN.out]; exact hkn
  have HKL := Lib.hid hkn
  have k0 : 0 ≤ (k : Int) := by omega
  have k1 : (k : Int) < (n : Int) := by omega
  have e0 : 0 ≤ (e : Int) := by omega
  have e1 : (e : Int) < 32 := by omega
  have s0 : 0 ≤ (s : Int) := by omega
  have s1 : (s : Int) < 8 := by omega
  have r0 : 0 ≤ (r : Int) := by omega
  have r1 : (r : Int) < 256 := by omega
  have HI1 := Lib.hid hi64
  have HI2 := Lib.hid hb64
  clear hk hr he hs he32 hx lx hxe hy hz hml hP hQ hpq hqq hX hY hi64 hb64
  go_enter Tryd.func6, Tryd.ntmps6
  go_wp2_with (first | (go_at_call 8; refine (first6 w HK.out).mono ?_; rintro e wr ⟨rfl, hb1⟩; have B := Lib.hid hb1; have HKR := Lib.hid (HK.out.below hb1); have HL := Lib.hid (HL0.out.below hb1); clear hb1) | (go_at_call 17; refine (numb_any at_ n (by omega) (by omega) HI1.out _).mono ?_; rintro e w' ⟨rfl, rfl⟩; rw [HKN.out]))
  refine (hashes_v l _ _ HL.out HN60.out).mono ?_
  rintro ee w1 ⟨vm, rfl, ho, hb⟩
  obtain ⟨gm, cm, hvm, hob⟩ := own_shape0 ho.1 (by have := HN.out; omega)
  obtain ⟨ba, hba⟩ : ∃ ba, ba = wr.heap.size := ⟨_, rfl⟩
  rw [← hba] at ho
  have HGM : Hid (w.heap.size ≤ gm) := by
    show _ ≤ _
    have h1 := (ho.1.lt gm hob).1
    have h2 := B.out.size
    omega
  rw [← HN.out] at hvm
  subst hvm
  have HO := Lib.hid ho
  clear ho hob hba
  have B := Lib.hid (B.out.trans (hb.mono B.out.size))
  have HKR := Lib.hid (HKR.out.below hb)
  have HL := Lib.hid (HL.out.below hb)
  clear hb
  go_upto_region 9 with (go_at_call 17; refine (numb_any bit 256 (by omega) (by omega) HI2.out _).mono ?_; rintro e w' ⟨rfl, rfl⟩; rw [HRN.out])
  refine wp_region_held_drew (S := (fun _ => True)) (by kernel_rfl) trivial (fun hHeld => ?_)
  have bb := Below.drew (Below.refl w1.heap.size w1)
  generalize hw2 : w1.drew = w2
  rw [hw2] at bb
  have HO := Lib.hid (HO.out.keep bb)
  have B := Lib.hid (B.out.trans (bb.mono B.out.size))
  clear hw2 bb
  have HO1 : Hid (w2.ownsRow ba 24 32 (.slice (some ⟨gm, 0, none⟩) n cm) n (hsL l)) := by
    have h := HO.out.1
    rw [← HN.out] at h
    exact h
  have we : IntKind.i64.wrap (e : Int) = (e : Int) := IntWalk.i64_in _ (by omega)
  have wsu : IntKind.u64.wrap (s : Int) = (s : Int) := by rw [IntKind.wrap_u64]; omega
  have wp8 : IntKind.u8.wrap ((2 : Int) ^ s) = (2 : Int) ^ s % 256 := by rw [IntKind.wrap_u8]
  have HC : Hid (w2.cell? ⟨gm, k * 32 + e, none⟩ = some (.int .u8 (bv xe))) := by
    show _ = _
    rw [HO1.out.cellAt (k * 32 + e) (by omega), hsL_get l k x HO.out.2 HXG.out e HE32.out, List.getElem?_map, HXE.out]
    rfl
  refine held_take (i := 0) (v := (.slice (some ⟨gm, 0, none⟩) n cm)) rfl (by kernel_rfl) (by kernel_rfl) (by kernel_rfl) (fun _ _ _ h => h) (Or.inl ⟨by rfl, fun w' _ => by kernel_rfl⟩) hHeld ?_
  go_frame
  refine held_take (i := 1) (v := (.int .i64 (k : Int))) rfl (by kernel_rfl) (by kernel_rfl) (by kernel_rfl) (fun _ _ _ h => h) (Or.inl ⟨by rfl, fun w' _ => by kernel_rfl⟩) hHeld ?_
  go_frame
  refine held_take (i := 2) (v := (.int .i64 (r : Int))) rfl (by kernel_rfl) (by kernel_rfl) (by kernel_rfl) (fun _ _ _ h => h) (Or.inl ⟨by rfl, fun w' _ => by kernel_rfl⟩) hHeld ?_
  go_frame
  refine held_take (i := 3) (v := (.int .i64 (e : Int))) rfl (by kernel_rfl) (by kernel_rfl) (by kernel_rfl) (fun _ _ _ h => h) (Or.inl ⟨by rfl, fun w' _ => by go_simp⟩) hHeld ?_
  go_frame
  refine held_take (i := 4) (v := (.slice (some ⟨gm, 0, none⟩) n cm)) rfl (by kernel_rfl) (by kernel_rfl) (by kernel_rfl) (fun _ _ _ h => h) (Or.inl ⟨by rfl, fun w' _ => by kernel_rfl⟩) hHeld ?_
  go_frame
  refine held_take (i := 5) (v := (.int .i64 (k : Int))) rfl (by kernel_rfl) (by kernel_rfl) (by kernel_rfl) (fun _ _ _ h => h) (Or.inl ⟨by rfl, fun w' _ => by kernel_rfl⟩) hHeld ?_
  go_frame
  refine held_take (i := 6) (v := (.int .i64 (r : Int))) rfl (by kernel_rfl) (by kernel_rfl) (by kernel_rfl) (fun _ _ _ h => h) (Or.inl ⟨by rfl, fun w' _ => by kernel_rfl⟩) hHeld ?_
  go_frame
  refine held_take (i := 7) (v := (.int .i64 (e : Int))) rfl (by kernel_rfl) (by kernel_rfl) (by kernel_rfl) (fun _ _ _ h => h) (Or.inl ⟨by rfl, fun w' _ => by go_simp⟩) hHeld ?_
  go_frame
  refine held_take (i := 8) (v := (.pointer (some ⟨gm, k * 32, none⟩))) rfl (by kernel_rfl) (by kernel_rfl) (by kernel_rfl) (fun _ _ _ h => h) (Or.inl ⟨by rfl, fun w' _ => by go_simp⟩) hHeld ?_
  go_frame
  refine held_take (i := 9) (v := (.pointer (some ⟨gm, k * 32 + e, none⟩))) rfl (by kernel_rfl) (by kernel_rfl) (by kernel_rfl) (fun _ _ _ h => h) (Or.inl ⟨by rfl, fun w' _ => by go_simp⟩) hHeld ?_
  go_frame
  refine held_take (i := 11) (v := (.int .i64 (r : Int))) rfl (by kernel_rfl) (by kernel_rfl) (by kernel_rfl) (fun _ _ _ h => h) (Or.inl ⟨by rfl, fun w' _ => by kernel_rfl⟩) hHeld ?_
  go_frame
  refine held_take (i := 12) (v := (.int .i64 (s : Int))) rfl (by kernel_rfl) (by kernel_rfl) (by kernel_rfl) (fun _ _ _ h => h) (Or.inl ⟨by rfl, fun w' _ => by go_simp⟩) hHeld ?_
  go_frame
  refine held_take (i := 13) (v := (.int .u64 (s : Int))) rfl (by kernel_rfl) (by kernel_rfl) (by kernel_rfl) (fun _ _ _ h => h) (Or.inl ⟨by rfl, fun w' _ => by go_simp⟩) hHeld ?_
  go_frame
  refine held_take (i := 14) (v := (.int .u8 ((2 : Int) ^ s % 256))) rfl (by kernel_rfl) (by kernel_rfl) (by kernel_rfl) (fun _ _ _ h => h) (Or.inl ⟨by rfl, fun w' _ => by go_simp⟩) hHeld ?_
  go_frame
  refine held_take (i := 16) (v := (.pointer (some ⟨gm, k * 32, none⟩))) rfl (by kernel_rfl) (by kernel_rfl) (by kernel_rfl) (fun _ _ _ h => h) (Or.inl ⟨by rfl, fun w' _ => by go_simp⟩) hHeld ?_
  go_frame
  refine wpAnyH_ready (rs := [10]) (by kernel_rfl) (by simp) (held_cons rfl (fun K hK => ?_) AllReadyH.nil)
  rw [if_pos (by rfl)]
  refine wp_load_cell 5 (.tmp 48) rfl gm (k * 32 + e) rfl (.int .u8 (bv xe)) _ HC.out Tryd.underlying5 rfl ?_
  go_frame
  refine hK.out _ _ trivial (fun hHeld => ?_)
  clear hK K
  refine held_take (i := 15) (v := (.int .u8 (bv y))) rfl (by kernel_rfl) (by kernel_rfl) (by kernel_rfl) (fun _ _ _ h => h) (Or.inl ⟨by rfl, fun w' _ => by go_simp⟩) hHeld ?_
  go_frame
  refine held_take (i := 17) (v := (.pointer (some ⟨gm, k * 32 + e, none⟩))) rfl (by kernel_rfl) (by kernel_rfl) (by kernel_rfl) (fun _ _ _ h => h) (Or.inl ⟨by rfl, fun w' _ => by go_simp⟩) hHeld ?_
  go_frame
  refine wpAnyH_ready (rs := [18]) (by kernel_rfl) (by simp) (held_cons rfl (fun K hK => ?_) AllReadyH.nil)
  rw [if_pos (by rfl)]
  refine wp_store_own 5 (.tmp 56) (.tmp 54) rfl gm (k * 32 + e) ba 32 n cm 24 (hsL l) (.int .u8 (bv y)) rfl rfl rfl (by kernel_rfl) HO1.out (by omega) ?_
  intro w3 q1 q2
  have hml : HsOwn ba w3 (.slice (some ⟨gm, 0, none⟩) n cm) ml := by
    have h := q1
    rw [show Value.int .u8 (bv y) = bV y by rfl, hsL_set l k e x y HO.out.2 HXG.out HE32.out, ← HZ.out, ← HML.out] at h
    refine ⟨by rw [HMN.out]; exact h, ?_⟩
    rw [HML.out]
    exact HO.out.2.set k HZL.out
  have HM := Lib.hid hml
  have B := Lib.hid (B.out.grown q2 B.out.size (fun j hj => by cases hj; exact HGM.out))
  clear q1 q2 hml
  go_frame
  refine hK.out _ _ trivial (fun hHeld => ?_)
  clear hK K HC HO HO1 we wsu wp8
  refine wpAnyH_done (by kernel_rfl) ?_ _
  clear hHeld
  have HKR : Hid (KTab w3) := HK.out.below B.out
  have HL : Hid (HsAt w3 (.slice sp n cap) l) := HL0.out.below B.out
  have HMA : Hid (HsAt w3 (.slice (some ⟨gm, 0, none⟩) n cm) ml) := HM.out.at
  clear HM q1 q2 m1 m2 hx1
  have HM := HMA
  clear HMA
  go_wp2_with fail
  refine (path_v k l P _ _ HKR.out HL.out HN60.out HKL2.out HPP.out).mono ?_
  rintro ee w4 ⟨vp, rfl, hp, hb⟩
  have HP := Lib.hid hp
  clear hp
  have B := Lib.hid (B.out.trans (hb.mono B.out.size))
  have HKR := Lib.hid (HKR.out.below hb)
  have HL := Lib.hid (HL.out.below hb)
  have HM := Lib.hid (HM.out.below hb)
  clear hb
  go_wp2_with fail
  refine (path_v k ml Q _ _ HKR.out HM.out HMN60.out HKL3.out HQQ.out).mono ?_
  rintro ee w5 ⟨vq, rfl, hp, hb⟩
  have HQ := Lib.hid hp
  clear hp
  have B := Lib.hid (B.out.trans (hb.mono B.out.size))
  have HKR := Lib.hid (HKR.out.below hb)
  have HL := Lib.hid (HL.out.below hb)
  have HM := Lib.hid (HM.out.below hb)
  have HP := Lib.hid (HP.out.below hb)
  clear hb
  have HZR : Hid (w5.rangeAt gm (k * 32) (z.map bV)) := by
    obtain ⟨b, o, hs, _, hg⟩ := HM.out.get (by omega)
    have h := hg k HKL.out
    have hs' := Option.some.inj hs
    cases hs'
    rwa [Nat.zero_add, getD_any HKL3.out, HGZ.out] at h
  go_wp2_with ((with_reducible show wpList _ _ _ _ _ _); (refine wpList_load_mid rfl 24 (.tmp 78) rfl gm (k * 32) rfl (z.map bV) _ HZR.out Tryd.underlying24 rfl (by rw [LZM.out]; kernel_rfl) ?_; go_frame))
  refine (climb_v z k n P X _ _ HKR.out HZL.out HP.out HKL.out (by omega) HPN.out HXC.out).mono ?_
  rintro ee w6 ⟨rfl, hb⟩
  have HZR := Lib.hid (range_below HZR.out hb)
  have B := Lib.hid (B.out.trans (hb.mono B.out.size))
  have HKR := Lib.hid (HKR.out.below hb)
  have HL := Lib.hid (HL.out.below hb)
  have HM := Lib.hid (HM.out.below hb)
  have HP := Lib.hid (HP.out.below hb)
  have HQ := Lib.hid (HQ.out.below hb)
  clear hb
  go_upto_region 15 with ((with_reducible show wpList _ _ _ _ _ _); refine wpList_store_row rfl 24 (.tmp 14) (.tmp 85) rfl w6.heap.size (X.map bV).toArray rfl rfl 24 _ (heap_alloc_new w6 _) (by rw [XS.out]; kernel_rfl) (by rw [XS.out]; rfl) (bV_one _) ?_; go_frame)
  obtain ⟨fb1, ff, hb⟩ := box_filled w6 X (Below.refl w6.heap.size w6)
  obtain ⟨g14, hg⟩ : ∃ g, g = w6.heap.size := ⟨_, rfl⟩
  generalize hq : World.setRow _ _ _ = w7
  have e2 : (w6.alloc (.cells (List.replicate 32 (bV 0)).toArray 24)).setRow w6.heap.size (X.map bV).toArray = w7 := hq
  rw [e2] at ff hb
  rw [← hg] at ff ⊢
  clear fb1 hq e2 hg
  have F14 := Lib.hid ff
  have HZR := Lib.hid (range_below HZR.out hb)
  clear ff
  have B := Lib.hid (B.out.trans (hb.mono B.out.size))
  have HKR := Lib.hid (HKR.out.below hb)
  have HL := Lib.hid (HL.out.below hb)
  have HM := Lib.hid (HM.out.below hb)
  have HP := Lib.hid (HP.out.below hb)
  have HQ := Lib.hid (HQ.out.below hb)
  clear hb
  go_wp2_with ((with_reducible show wpList _ _ _ _ _ _); (refine wpList_load_mid rfl 24 (.tmp 90) rfl gm (k * 32) rfl (z.map bV) _ HZR.out Tryd.underlying24 rfl (by rw [LZM.out]; kernel_rfl) ?_; go_frame))
  refine (climb_v z k n Q Y _ _ HKR.out HZL.out HQ.out HKL.out (by omega) HQN.out HYC.out).mono ?_
  rintro ee w8 ⟨rfl, hb⟩
  have B := Lib.hid (B.out.trans (hb.mono B.out.size))
  have HKR := Lib.hid (HKR.out.below hb)
  have HL := Lib.hid (HL.out.below hb)
  have HM := Lib.hid (HM.out.below hb)
  have HP := Lib.hid (HP.out.below hb)
  have HQ := Lib.hid (HQ.out.below hb)
  have F14 := Lib.hid (row_below F14.out hb)
  clear hb
  go_upto_region 16 with ((with_reducible show wpList _ _ _ _ _ _); refine wpList_store_row rfl 24 (.tmp 16) (.tmp 97) rfl w8.heap.size (Y.map bV).toArray rfl rfl 24 _ (heap_alloc_new w8 _) (by rw [YS.out]; kernel_rfl) (by rw [YS.out]; rfl) (bV_one _) ?_; go_frame)
  obtain ⟨fb1, ff, hb⟩ := box_filled w8 Y (Below.refl w8.heap.size w8)
  obtain ⟨g16, hg⟩ : ∃ g, g = w8.heap.size := ⟨_, rfl⟩
  generalize hq : World.setRow _ _ _ = w9
  have e2 : (w8.alloc (.cells (List.replicate 32 (bV 0)).toArray 24)).setRow w8.heap.size (Y.map bV).toArray = w9 := hq
  rw [e2] at ff hb
  rw [← hg] at ff ⊢
  clear fb1 hq e2 hg
  have F16 := Lib.hid ff
  clear ff
  have B := Lib.hid (B.out.trans (hb.mono B.out.size))
  have HKR := Lib.hid (HKR.out.below hb)
  have HL := Lib.hid (HL.out.below hb)
  have HM := Lib.hid (HM.out.below hb)
  have HP := Lib.hid (HP.out.below hb)
  have HQ := Lib.hid (HQ.out.below hb)
  have F14 := Lib.hid (row_below F14.out hb)
  clear hb
  obtain ⟨d, hd⟩ : ∃ d : Bool, d = true ↔ P = Q := ⟨decide (P = Q), by simp⟩
  have HD := Lib.hid hd
  have SMH : Hid (Calls Tryd.prog 16 #[vp, vq] w9 fun e w' => e = .returned (.bool d) ∧ Below w9.heap.size w9 w') := samehs_v P Q vp vq w9 HP.out HQ.out HPL.out d hd
  clear hd
  go_wp2_with fail
  refine SMH.out.mono ?_
  rintro ee wr ⟨rfl, hb⟩
  clear SMH
  have B := Lib.hid (B.out.trans (hb.mono B.out.size))
  have HKR := Lib.hid (HKR.out.below hb)
  have HL := Lib.hid (HL.out.below hb)
  have HM := Lib.hid (HM.out.below hb)
  have F14 := Lib.hid (row_below F14.out hb)
  have F16 := Lib.hid (row_below F16.out hb)
  clear hb
  by_cases hpq : P = Q
  · obtain rfl : d = true := HD.out.2 hpq
    have HXY := Lib.hid (HPXY.out hpq)
    clear hpq
    go_wp2_with fail
    refine wp_region_held_drew (S := (fun w' => Below wr.heap.size wr w')) (by kernel_rfl) (Below.drew (Below.refl _ _)) (fun hHeld => ?_)
    generalize hwd : wr.drew = wd at hHeld ⊢
    clear hwd
    refine held_take (i := 0) (v := (.bool true)) rfl (by kernel_rfl) (by kernel_rfl) (by kernel_rfl) (fun _ _ _ h => h) (Or.inl ⟨by rfl, fun w' _ => by kernel_rfl⟩) hHeld ?_
    go_frame
    refine held_take (i := 1) (v := (.bool true)) rfl (by kernel_rfl) (by kernel_rfl) (by kernel_rfl) (fun _ _ _ h => h) (Or.inl ⟨by rfl, fun w' _ => by kernel_rfl⟩) hHeld ?_
    go_frame
    refine held_take (i := 2) (v := (.bool true)) rfl (by kernel_rfl) (by kernel_rfl) (by kernel_rfl) (fun _ _ _ h => h) (Or.inl ⟨by rfl, fun w' _ => by kernel_rfl⟩) hHeld ?_
    go_frame
    refine held_take (i := 3) (v := (.bool true)) rfl (by kernel_rfl) (by kernel_rfl) (by kernel_rfl) (fun _ _ _ h => h) (Or.inl ⟨by rfl, fun w' _ => by kernel_rfl⟩) hHeld ?_
    go_frame
    refine held_take (i := 4) (v := (.bool true)) rfl (by kernel_rfl) (by kernel_rfl) (by kernel_rfl) (fun _ _ _ h => h) (Or.inl ⟨by rfl, fun w' _ => by kernel_rfl⟩) hHeld ?_
    go_frame
    refine held_take (i := 5) (v := (.bool true)) rfl (by kernel_rfl) (by kernel_rfl) (by kernel_rfl) (fun _ _ _ h => h) (Or.inl ⟨by rfl, fun w' _ => by kernel_rfl⟩) hHeld ?_
    go_frame
    refine held_take (i := 6) (v := (.bool true)) rfl (by kernel_rfl) (by kernel_rfl) (by kernel_rfl) (fun _ _ _ h => h) (Or.inl ⟨by rfl, fun w' _ => by kernel_rfl⟩) hHeld ?_
    go_frame
    refine held_take (i := 7) (v := (.bool true)) rfl (by kernel_rfl) (by kernel_rfl) (by kernel_rfl) (fun _ _ _ h => h) (Or.inl ⟨by rfl, fun w' _ => by kernel_rfl⟩) hHeld ?_
    go_frame
    refine held_take (i := 8) (v := (.agg (Y.map bV).toArray)) rfl (by kernel_rfl) (by kernel_rfl) (by kernel_rfl) (fun _ _ _ h => h) (yieldsIf_load_row (by rfl) 24 (.tmp 16) rfl g16 rfl 24 (Y.map bV).toArray (0, 0) _ (fun w' hw' => row_below F16.out hw') Tryd.underlying24 rfl (by rw [YS.out]; kernel_rfl)) hHeld ?_
    go_frame
    refine held_take (i := 9) (v := (.slice (some ⟨gm, 0, none⟩) n cm)) rfl (by kernel_rfl) (by kernel_rfl) (by kernel_rfl) (fun _ _ _ h => h) (Or.inl ⟨by rfl, fun w' _ => by kernel_rfl⟩) hHeld ?_
    go_frame
    refine wpAnyH_ready (rs := [10]) (by kernel_rfl) (by simp) (held_cons rfl (fun K hK => ?_) AllReadyH.nil)
    rw [if_pos (by rfl)]
    go_simp
    refine (root_v ml Y _ _ (HKR.out.below hHeld) (HM.out.below hHeld) HMN60.out HYR.out).mono ?_
    rintro e v1 ⟨rfl, bb⟩
    have hv1 := hHeld.trans (bb.mono hHeld.size)
    clear bb hHeld
    go_wp2_with fail
    refine hK.out _ _ hv1 (fun hHeld => ?_)
    clear hK K hv1
    refine wpAnyH_ready (rs := [11]) (by kernel_rfl) (by simp) (held_cons rfl (fun K hK => ?_) AllReadyH.nil)
    rw [if_pos (by rfl)]
    go_simp
    refine (same_v Y Y true HYL.out HYL.out (by simp) _).mono ?_
    rintro e v2 ⟨rfl, bb⟩
    have hv2 := hHeld.trans (bb.mono hHeld.size)
    clear bb hHeld
    go_wp2_with fail
    refine hK.out _ _ hv2 (fun hHeld => ?_)
    clear hK K hv2
    refine held_take (i := 12) (v := (.bool true)) rfl (by kernel_rfl) (by kernel_rfl) (by kernel_rfl) (fun _ _ _ h => h) (Or.inl ⟨by rfl, fun w' _ => by kernel_rfl⟩) hHeld ?_
    go_frame
    refine held_take (i := 13) (v := (.bool true)) rfl (by kernel_rfl) (by kernel_rfl) (by kernel_rfl) (fun _ _ _ h => h) (Or.inl ⟨by rfl, fun w' _ => by kernel_rfl⟩) hHeld ?_
    go_frame
    refine held_take (i := 14) (v := (.bool true)) rfl (by kernel_rfl) (by kernel_rfl) (by kernel_rfl) (fun _ _ _ h => h) (Or.inl ⟨by rfl, fun w' _ => by kernel_rfl⟩) hHeld ?_
    go_frame
    refine held_take (i := 15) (v := (.bool false)) rfl (by kernel_rfl) (by kernel_rfl) (by kernel_rfl) (fun _ _ _ h => h) (Or.inl ⟨by rfl, fun w' _ => by kernel_rfl⟩) hHeld ?_
    go_frame
    refine held_take (i := 16) (v := (.bool false)) rfl (by kernel_rfl) (by kernel_rfl) (by kernel_rfl) (fun _ _ _ h => h) (Or.inl ⟨by rfl, fun w' _ => by kernel_rfl⟩) hHeld ?_
    go_frame
    refine held_take (i := 17) (v := (.agg (X.map bV).toArray)) rfl (by kernel_rfl) (by kernel_rfl) (by kernel_rfl) (fun _ _ _ h => h) (yieldsIf_load_row (by rfl) 24 (.tmp 14) rfl g14 rfl 24 (X.map bV).toArray (0, 0) _ (fun w' hw' => row_below F14.out hw') Tryd.underlying24 rfl (by rw [XS.out]; kernel_rfl)) hHeld ?_
    go_frame
    refine held_take (i := 18) (v := (.agg (Y.map bV).toArray)) rfl (by kernel_rfl) (by kernel_rfl) (by kernel_rfl) (fun _ _ _ h => h) (yieldsIf_load_row (by rfl) 24 (.tmp 16) rfl g16 rfl 24 (Y.map bV).toArray (0, 0) _ (fun w' hw' => row_below F16.out hw') Tryd.underlying24 rfl (by rw [YS.out]; kernel_rfl)) hHeld ?_
    go_frame
    refine wpAnyH_ready (rs := [19]) (by kernel_rfl) (by simp) (held_cons rfl (fun K hK => ?_) AllReadyH.nil)
    rw [if_pos (by rfl)]
    go_simp
    refine (same_v X Y true HXL.out HYL.out (by rw [HXY.out]; simp) _).mono ?_
    rintro e v3 ⟨rfl, bb⟩
    have hv3 := hHeld.trans (bb.mono hHeld.size)
    clear bb hHeld
    go_wp2_with fail
    refine hK.out _ _ hv3 (fun hHeld => ?_)
    clear hK K hv3
    refine held_take (i := 20) (v := (.bool true)) rfl (by kernel_rfl) (by kernel_rfl) (by kernel_rfl) (fun _ _ _ h => h) (Or.inl ⟨by rfl, fun w' _ => by kernel_rfl⟩) hHeld ?_
    go_frame
    refine held_take (i := 21) (v := (.bool true)) rfl (by kernel_rfl) (by kernel_rfl) (by kernel_rfl) (fun _ _ _ h => h) (Or.inl ⟨by rfl, fun w' _ => by kernel_rfl⟩) hHeld ?_
    go_frame
    refine held_take (i := 22) (v := (.bool true)) rfl (by kernel_rfl) (by kernel_rfl) (by kernel_rfl) (fun _ _ _ h => h) (Or.inl ⟨by rfl, fun w' _ => by kernel_rfl⟩) hHeld ?_
    go_frame
    refine wpAnyH_done (by kernel_rfl) ?_ _
    have B9 := Lib.hid (B.out.trans (hHeld.mono B.out.size))
    clear hHeld
    go_wp2_with fail
    go_ret
    exact ⟨rfl, B9.out⟩
  · have hdf : d = false := by
      cases h : d with
      | false => rfl
      | true => exact absurd (HD.out.1 h) hpq
    subst hdf
    clear hpq
    go_wp2_with fail
    refine wp_region_held_drew (S := (fun w' => Below wr.heap.size wr w')) (by kernel_rfl) (Below.drew (Below.refl _ _)) (fun hHeld => ?_)
    generalize hwd : wr.drew = wd at hHeld ⊢
    clear hwd
    refine held_take (i := 0) (v := (.bool true)) rfl (by kernel_rfl) (by kernel_rfl) (by kernel_rfl) (fun _ _ _ h => h) (Or.inl ⟨by rfl, fun w' _ => by kernel_rfl⟩) hHeld ?_
    go_frame
    refine held_take (i := 1) (v := (.bool true)) rfl (by kernel_rfl) (by kernel_rfl) (by kernel_rfl) (fun _ _ _ h => h) (Or.inl ⟨by rfl, fun w' _ => by kernel_rfl⟩) hHeld ?_
    go_frame
    refine held_take (i := 2) (v := (.bool true)) rfl (by kernel_rfl) (by kernel_rfl) (by kernel_rfl) (fun _ _ _ h => h) (Or.inl ⟨by rfl, fun w' _ => by kernel_rfl⟩) hHeld ?_
    go_frame
    refine held_take (i := 3) (v := (.bool true)) rfl (by kernel_rfl) (by kernel_rfl) (by kernel_rfl) (fun _ _ _ h => h) (Or.inl ⟨by rfl, fun w' _ => by kernel_rfl⟩) hHeld ?_
    go_frame
    refine held_take (i := 4) (v := (.bool true)) rfl (by kernel_rfl) (by kernel_rfl) (by kernel_rfl) (fun _ _ _ h => h) (Or.inl ⟨by rfl, fun w' _ => by kernel_rfl⟩) hHeld ?_
    go_frame
    refine held_take (i := 5) (v := (.bool true)) rfl (by kernel_rfl) (by kernel_rfl) (by kernel_rfl) (fun _ _ _ h => h) (Or.inl ⟨by rfl, fun w' _ => by kernel_rfl⟩) hHeld ?_
    go_frame
    refine held_take (i := 6) (v := (.bool true)) rfl (by kernel_rfl) (by kernel_rfl) (by kernel_rfl) (fun _ _ _ h => h) (Or.inl ⟨by rfl, fun w' _ => by kernel_rfl⟩) hHeld ?_
    go_frame
    refine held_take (i := 7) (v := (.bool true)) rfl (by kernel_rfl) (by kernel_rfl) (by kernel_rfl) (fun _ _ _ h => h) (Or.inl ⟨by rfl, fun w' _ => by kernel_rfl⟩) hHeld ?_
    go_frame
    refine held_take (i := 8) (v := (.agg (Y.map bV).toArray)) rfl (by kernel_rfl) (by kernel_rfl) (by kernel_rfl) (fun _ _ _ h => h) (yieldsIf_load_row (by rfl) 24 (.tmp 16) rfl g16 rfl 24 (Y.map bV).toArray (0, 0) _ (fun w' hw' => row_below F16.out hw') Tryd.underlying24 rfl (by rw [YS.out]; kernel_rfl)) hHeld ?_
    go_frame
    refine held_take (i := 9) (v := (.slice (some ⟨gm, 0, none⟩) n cm)) rfl (by kernel_rfl) (by kernel_rfl) (by kernel_rfl) (fun _ _ _ h => h) (Or.inl ⟨by rfl, fun w' _ => by kernel_rfl⟩) hHeld ?_
    go_frame
    refine wpAnyH_ready (rs := [10]) (by kernel_rfl) (by simp) (held_cons rfl (fun K hK => ?_) AllReadyH.nil)
    rw [if_pos (by rfl)]
    go_simp
    refine (root_v ml Y _ _ (HKR.out.below hHeld) (HM.out.below hHeld) HMN60.out HYR.out).mono ?_
    rintro e v1 ⟨rfl, bb⟩
    have hv1 := hHeld.trans (bb.mono hHeld.size)
    clear bb hHeld
    go_wp2_with fail
    refine hK.out _ _ hv1 (fun hHeld => ?_)
    clear hK K hv1
    refine wpAnyH_ready (rs := [11]) (by kernel_rfl) (by simp) (held_cons rfl (fun K hK => ?_) AllReadyH.nil)
    rw [if_pos (by rfl)]
    go_simp
    refine (same_v Y Y true HYL.out HYL.out (by simp) _).mono ?_
    rintro e v2 ⟨rfl, bb⟩
    have hv2 := hHeld.trans (bb.mono hHeld.size)
    clear bb hHeld
    go_wp2_with fail
    refine hK.out _ _ hv2 (fun hHeld => ?_)
    clear hK K hv2
    refine held_take (i := 12) (v := (.bool true)) rfl (by kernel_rfl) (by kernel_rfl) (by kernel_rfl) (fun _ _ _ h => h) (Or.inl ⟨by rfl, fun w' _ => by kernel_rfl⟩) hHeld ?_
    go_frame
    refine held_take (i := 13) (v := (.bool true)) rfl (by kernel_rfl) (by kernel_rfl) (by kernel_rfl) (fun _ _ _ h => h) (Or.inl ⟨by rfl, fun w' _ => by kernel_rfl⟩) hHeld ?_
    go_frame
    refine held_take (i := 14) (v := (.bool false)) rfl (by kernel_rfl) (by kernel_rfl) (by kernel_rfl) (fun _ _ _ h => h) (Or.inl ⟨by rfl, fun w' _ => by kernel_rfl⟩) hHeld ?_
    go_frame
    refine held_take (i := 15) (v := (.bool true)) rfl (by kernel_rfl) (by kernel_rfl) (by kernel_rfl) (fun _ _ _ h => h) (Or.inl ⟨by rfl, fun w' _ => by kernel_rfl⟩) hHeld ?_
    go_frame
    refine held_take (i := 16) (v := (.bool true)) rfl (by kernel_rfl) (by kernel_rfl) (by kernel_rfl) (fun _ _ _ h => h) (Or.inl ⟨by rfl, fun w' _ => by kernel_rfl⟩) hHeld ?_
    go_frame
    refine held_take (i := 17) (v := undef) rfl (by kernel_rfl) (by kernel_rfl) (by kernel_rfl) (fun _ _ _ h => h) (Or.inr ⟨by rfl, rfl⟩) hHeld ?_
    go_frame
    refine held_take (i := 18) (v := undef) rfl (by kernel_rfl) (by kernel_rfl) (by kernel_rfl) (fun _ _ _ h => h) (Or.inr ⟨by rfl, rfl⟩) hHeld ?_
    go_frame
    refine held_take (i := 19) (v := undef) rfl (by kernel_rfl) (by kernel_rfl) (by kernel_rfl) (fun _ _ _ h => h) (Or.inr ⟨by rfl, rfl⟩) hHeld ?_
    go_frame
    refine held_take (i := 20) (v := (.bool true)) rfl (by kernel_rfl) (by kernel_rfl) (by kernel_rfl) (fun _ _ _ h => h) (Or.inl ⟨by rfl, fun w' _ => by kernel_rfl⟩) hHeld ?_
    go_frame
    refine held_take (i := 21) (v := (.bool true)) rfl (by kernel_rfl) (by kernel_rfl) (by kernel_rfl) (fun _ _ _ h => h) (Or.inl ⟨by rfl, fun w' _ => by kernel_rfl⟩) hHeld ?_
    go_frame
    refine held_take (i := 22) (v := (.bool true)) rfl (by kernel_rfl) (by kernel_rfl) (by kernel_rfl) (fun _ _ _ h => h) (Or.inl ⟨by rfl, fun w' _ => by kernel_rfl⟩) hHeld ?_
    go_frame
    refine wpAnyH_done (by kernel_rfl) ?_ _
    have B9 := Lib.hid (B.out.trans (hHeld.mono B.out.size))
    clear hHeld
    go_wp2_with fail
    go_ret
    exact ⟨rfl, B9.out⟩
end Go.Proofs.YtaeebcedobkopaaDoor.Sha

/-
  The statements' own pair: the digest above two. Nothing that was there turns. No conditions.
-/
namespace Go.Proofs.YtaeebcedobkopaaDoor.Sha
open Go Go.RowKit
set_option maxHeartbeats 2000000 in
set_option maxRecDepth 100000 in
theorem pair_any (a b : List UInt8) (ha : a.length = 32) (hb : b.length = 32) (w : World) :
    Calls Tryd.prog 24 #[.agg (a.map bV).toArray, .agg (b.map bV).toArray] w fun e w' => e = .returned (.agg ((prH a b).map bV).toArray) ∧ Below w.heap.size w w' := by
  obtain ⟨i0, hi, hz0, hz1, hz2⟩ := info_parts info_u8
  have HA := Lib.hid ha
  have HB := Lib.hid hb
  have HOne := Lib.hid (bV_one (prH a b))
  have HLen : Hid ((((prH a b).map bV).toArray).size = 32) := by show _ = _; simp [prH_length]
  obtain ⟨dg, hdg⟩ : ∃ dg, dg = ((prH a b).map bV).toArray := ⟨_, rfl⟩
  rw [← hdg] at HOne HLen ⊢
  have HD := Lib.hid hdg
  clear hdg ha hb
  go_enter Tryd.func24, Tryd.ntmps24
  go_upto_region 1 with fail
  obtain ⟨b1, f1, f2, f3⟩ := boxes_two_zero w (a.map bV).toArray (b.map bV).toArray (List.replicate 32 (bV 0)).toArray 24
  generalize hw1 : World.alloc _ _ = w1
  have e1 : ((w.alloc (.cells (a.map bV).toArray 24 (0, 0))).alloc (.cells (b.map bV).toArray 24 (0, 0))).alloc (.cells (List.replicate 32 (bV 0)).toArray 24 (0, 0)) = w1 := hw1
  rw [e1] at b1 f1 f2 f3
  clear hw1 e1
  have F1 := Lib.hid f1
  have F2 := Lib.hid f2
  have F3 := Lib.hid f3
  have B1 := Lib.hid b1
  clear f1 f2 f3 b1
  refine wp_region_held_drew (S := (fun _ => True)) (by kernel_rfl) trivial (fun hHeld => ?_)
  have bb := Below.drew (Below.refl w1.heap.size w1)
  generalize hw2 : w1.drew = w2
  rw [hw2] at bb
  have F1 := Lib.hid (row_below F1.out bb)
  have F2 := Lib.hid (row_below F2.out bb)
  have F3 := Lib.hid (row_below F3.out bb)
  have B2 := Lib.hid (B1.out.trans (bb.mono B1.out.size))
  have B2G : Hid (w.heap.size + 2 < w2.heap.size) := by show _ < _; exact (Array.getElem?_eq_some_iff.1 F3.out).1
  clear hw2 bb B1
  refine held_take (i := 0) (v := (.slice (some ⟨w.heap.size, 0, none⟩) 32 32)) rfl (by kernel_rfl) (by kernel_rfl) (by kernel_rfl) (fun _ _ _ h => h) (Or.inl ⟨by rfl, fun w' _ => by kernel_rfl⟩) hHeld ?_
  go_frame
  refine held_take (i := 2) (v := (.slice (some ⟨w.heap.size + 1, 0, none⟩) 32 32)) rfl (by kernel_rfl) (by kernel_rfl) (by kernel_rfl) (fun _ _ _ h => h) (Or.inl ⟨by rfl, fun w' _ => by kernel_rfl⟩) hHeld ?_
  go_frame
  refine wpAnyH_ready (rs := [1]) (by kernel_rfl) (by simp) (held_cons rfl (fun K hK => ?_) AllReadyH.nil)
  go_simp
  refine (bytes_copy_any a _ 32 32 w2 (src_block HA.out F1.out) (by omega)).mono ?_
  rintro e w3 ⟨rfl, ho, bb⟩
  have HO := Lib.hid ho
  have F2 := Lib.hid (row_below F2.out bb)
  have F3 := Lib.hid (row_below F3.out bb)
  have B3 := Lib.hid (B2.out.trans (bb.mono B2.out.size))
  have S23 := Lib.hid bb.size
  have g2lt : w.heap.size + 2 < w2.heap.size := by have := B2G.out; omega
  clear ho bb F1
  go_wp2_with fail
  refine hK.out _ _ trivial (fun hHeld => ?_)
  clear hK K
  refine wpAnyH_ready (rs := [3]) (by kernel_rfl) (by simp) (held_cons rfl (fun K hK => ?_) AllReadyH.nil)
  rw [if_pos (by rfl)]
  refine wp_append_row w3 (.tmp 6) (.tmp 7) 45 rfl w2.heap.size 5 i0 (.int .u8 0) 1 1 Tryd.underlying45 hi hz0 hz1 hz2 (by kernel_rfl) (by decide) (.slice (some ⟨w2.heap.size, 0, none⟩) 32 32) 32 (a.map bV) rfl HO.out ⟨w.heap.size + 1, 0, none⟩ 32 32 (b.map bV) rfl (by rw [List.length_map, HB.out]) (hs_one F2.out) (bV_one' _) (by unfold maxLen; omega) (by omega) S23.out ?_
  intro v4 w4 q1 q2 q3
  obtain ⟨g4, c4, hv4, hg4, hc4⟩ := own_shape q1 (by omega)
  subst hv4
  have q1' : w4.ownsRow w2.heap.size 5 1 (.slice (some ⟨g4, 0, none⟩) 64 c4) 64 ((a ++ b).map bV) := by rw [List.map_append]; exact q1
  have S4 := Lib.hid (src_own q1')
  have q2' : w3.grownBy w4 (some w2.heap.size) := q2
  have F3 := Lib.hid (row_far F3.out q2' (fun e => by have := Option.some.inj e; omega))
  have B4 := Lib.hid (B3.out.grown q2' B3.out.size (fun k hk => by cases hk; exact B2.out.size))
  clear q1 q2 q3 q1' q2' hg4 hc4 B3 F2 HO
  go_frame
  refine hK.out _ _ trivial (fun hHeld => ?_)
  clear hK K
  refine wpAnyH_ready (rs := [4]) (by kernel_rfl) (by simp) (held_cons rfl (fun K hK => ?_) AllReadyH.nil)
  go_simp
  have TW := ref_twice (a ++ b) (some ⟨g4, 0, none⟩) 64 c4 w4 S4.out (by omega)
  rw [show sha (sha (a ++ b)) = prH a b from rfl, ← HD.out] at TW
  refine TW.mono ?_
  clear TW
  rintro e w5 ⟨rfl, bb⟩
  have F3 := Lib.hid (row_below F3.out bb)
  have B5 := Lib.hid (B4.out.trans (bb.mono B4.out.size))
  clear bb B4 S4
  go_wp2_with fail
  refine hK.out _ _ trivial (fun hHeld => ?_)
  clear hK K
  refine wpAnyH_ready (rs := [5]) (by kernel_rfl) (by simp) (held_cons rfl (fun K hK => ?_) AllReadyH.nil)
  rw [if_pos (by rfl)]
  refine wp_store_part 24 (.tmp 4) (.tmp 9) rfl (w.heap.size + 2) 0 [] (List.replicate 32 (bV 0)) [] dg.toList 24 (.agg dg) rfl rfl (by simp [Value.cells]) rfl (by simp [HLen.out]) (by simpa using F3.out) (by rw [Array.length_toList, HLen.out]; kernel_rfl) (one_list HOne.out) ?_
  intro w6 q1 q2
  have f6 : w6.heap[w.heap.size + 2]? = some (.cells dg 24 (0, 0)) := by simpa using q1
  have F6 := Lib.hid f6
  have B6 := Lib.hid (B5.out.grown q2 B5.out.size (fun k hk => by cases hk; omega))
  clear q1 q2 f6
  go_frame
  refine hK.out _ _ trivial (fun hHeld => ?_)
  clear hK K
  refine wpAnyH_done (by kernel_rfl) ?_ _
  clear hHeld
  go_wp2_with fail
  refine bodyPost_ret (results_cell_row rfl _ _ (w.heap.size + 2) 24 dg (0, 0) (.array 32 5) rfl F6.out Tryd.underlying24 rfl (by rw [HLen.out]; kernel_rfl)) rfl ⟨rfl, B6.out⟩
end Go.Proofs.YtaeebcedobkopaaDoor.Sha

/-
  The row above a row of digests: package merkle's, and the statements' own. New memory; nothing that was there turns. Conditions: the digests lie where the slice says; for package merkle's the table is there.
-/
namespace Go.Proofs.YtaeebcedobkopaaDoor.Sha
open Go Go.RowKit
set_option maxHeartbeats 4000000 in
set_option maxRecDepth 100000 in
theorem row_ref (l : List (List UInt8)) (sp : Option Addr) (n cap : Nat) (w : World) (hl : HsAt w (.slice sp n cap) l) (hn : n ≤ 1048576) :
    Calls Tryd.prog 21 #[.slice sp n cap] w fun e w' => ∃ v, e = .returned v ∧ HsOwn w.heap.size w' v (rowL prH l) ∧ Below w.heap.size w w' := by
  obtain ⟨i0, hi, hz0, hz1, hz2⟩ := info_parts info_hash
  have hln := hl.len
  have hok := hl.1
  have HOK := Lib.hid hok
  have HLN := Lib.hid hln.1
  have HL := Lib.hid hl
  have LROW := Lib.hid (rowL_length prH l)
  obtain ⟨m, hm⟩ : ∃ m, m = (n + 1) / 2 := ⟨_, rfl⟩
  have hmb : m ≤ 1048576 := by omega
  have hm2 : 2 * m = n ∨ 2 * m = n + 1 := by omega

  have HMM := Lib.hid hm
  clear hl hln hok hm
  go_enter Tryd.func21, Tryd.ntmps21
  have HB0 := Lib.hid (Below.refl w.heap.size w)
  have HST : Hid (HsOwn w.heap.size w (.slice none 0 0) ((rowL prH l).take 0)) := HsOwn.nil _ _
  go_wp2_with fail
  go_loopw [3, 4] (fun vs vi wr => RaInv l n w vs vi wr) (fun _ vi _ => n + 1 - (intOf vi).toNat)
  case atStart => exact ⟨0, 0, _, rfl, by omega, by omega, rfl, HST.out, HB0.out⟩
  case round =>
    clear HST HB0
    obtain ⟨k, j, vb, rfl, hj1, hj, rfl, ho, hb⟩ := hrel
    have HO := Lib.hid ho
    have HB := Lib.hid hb
    have HJ := Lib.hid hj
    clear ho hb
    by_cases hlt : j < n
    · obtain ⟨b, o, rfl, hbw, hg⟩ := HL.out.get (by omega)
      obtain ⟨p, hp⟩ : ∃ p, p = otherN j n := ⟨_, rfl⟩
      have hpn : p < n := by rw [hp]; exact otherN_lt hlt
      obtain ⟨x, hx⟩ : ∃ x, x = l.getD j [] := ⟨_, rfl⟩
      obtain ⟨y, hy⟩ : ∃ y, y = l.getD p [] := ⟨_, rfl⟩
      have HX := Lib.hid (hg j hlt)
      have HY := Lib.hid (hg p hpn)
      rw [← hx] at HX
      rw [← hy] at HY
      have lx : x.length = 32 := by rw [hx]; exact HOK.out.get (by have := HLN.out; omega)
      have ly : y.length = 32 := by rw [hy]; exact HOK.out.get (by have := HLN.out; omega)
      have LX' := Lib.hid lx
      have LY' := Lib.hid ly
      have LX := Lib.hid (show x.length = 32 from lx)
      have LY := Lib.hid (show y.length = 32 from ly)
      have LP : Hid (((prH x y).map bV).length = 32) := by show _ = _; rw [List.length_map, prH_length]
      have lk : ((rowL prH l).take k).length ≤ 1048576 := by rw [List.length_take]; omega
      have LK := Lib.hid lk
      have ht : (rowL prH l).take (k + 1) = (rowL prH l).take k ++ [prH x y] := by
        have hkl : k < (rowL prH l).length := by rw [LROW.out]; have := HLN.out; omega
        have e := rowL_get prH [] l k (by have := HLN.out; omega)
        rw [List.getD_eq_getElem?_getD, List.getElem?_eq_getElem hkl] at e
        simp only [Option.getD_some] at e
        have e2 : otherN j n = if j + 1 < l.length then j + 1 else j := by
          unfold otherN
          rw [if_neg (show ¬ j % 2 = 1 by omega), ← HLN.out]
        rw [List.take_succ_eq_append_getElem hkl, e, hx, hy, hp, ← hj, e2]
      have HT := Lib.hid ht
      have HP := Lib.hid hp
      have p0 : 0 ≤ (j : Int) := by omega
      have q0 : (j : Int) < (n : Int) := by omega
      have p1 : 0 ≤ (p : Int) := by omega
      have q1 : (p : Int) < (n : Int) := by omega
      have wj : IntKind.i64.wrap ((j : Int) + 2) = (j : Int) + 2 := IntWalk.i64_in _ (by omega)
      have wj1 : IntKind.i64.wrap ((j : Int) + 1) = (j : Int) + 1 := IntWalk.i64_in _ (by omega)
      have wn1 : IntKind.i64.wrap ((n : Int) - 1) = (n : Int) - 1 := IntWalk.i64_in _ (by omega)
      have HM : Hid (min ((j : Int) + 1) ((n : Int) - 1) = (p : Int)) := by
        show _ = _
        rw [hp]
        unfold otherN
        rw [if_neg (show ¬ j % 2 = 1 by omega)]
        by_cases h : j + 1 < n
        · rw [if_pos h]; omega
        · rw [if_neg h]; omega
      clear hg hx hy hp hj lx ly ht lk
      go_wp2_with fail
      refine wp_region_held_drew (S := (fun w' => Below w.heap.size w w')) (by kernel_rfl) (Below.drew HB.out) (fun hHeld => ?_)
      have HO3 := Lib.hid (HO.out.keep (Below.drew (Below.refl wr.heap.size wr)))
      clear HO HB
      refine held_take (i := 0) (v := vb) rfl (by kernel_rfl) (by kernel_rfl) (by kernel_rfl) (fun _ _ _ h => h) (Or.inl ⟨by rfl, fun w' _ => by kernel_rfl⟩) hHeld ?_
      go_frame
      refine held_take (i := 1) (v := (.slice (some ⟨b, o, none⟩) n cap)) rfl (by kernel_rfl) (by kernel_rfl) (by kernel_rfl) (fun _ _ _ h => h) (Or.inl ⟨by rfl, fun w' _ => by kernel_rfl⟩) hHeld ?_
      go_frame
      refine held_take (i := 2) (v := (.int .i64 (j : Int))) rfl (by kernel_rfl) (by kernel_rfl) (by kernel_rfl) (fun _ _ _ h => h) (Or.inl ⟨by rfl, fun w' _ => by kernel_rfl⟩) hHeld ?_
      go_frame
      refine held_take (i := 3) (v := (.pointer (some ⟨b, o + j * 32, none⟩))) rfl (by kernel_rfl) (by kernel_rfl) (by kernel_rfl) (fun _ _ _ h => h) (Or.inl ⟨by rfl, fun w' _ => by go_simp⟩) hHeld ?_
      go_frame
      refine held_take (i := 4) (v := (.agg (x.map bV).toArray)) rfl (by kernel_rfl) (by kernel_rfl) (by kernel_rfl) (fun _ _ _ h => h) (yieldsIf_load_mid (by rfl) 24 (.tmp 14) rfl b (o + j * 32) rfl (x.map bV) _ (fun w' hw' => range_below HX.out hw') Tryd.underlying24 rfl (by rw [List.length_map, LX.out]; kernel_rfl)) hHeld ?_
      go_frame
      refine held_take (i := 5) (v := (.slice (some ⟨b, o, none⟩) n cap)) rfl (by kernel_rfl) (by kernel_rfl) (by kernel_rfl) (fun _ _ _ h => h) (Or.inl ⟨by rfl, fun w' _ => by kernel_rfl⟩) hHeld ?_
      go_frame
      refine held_take (i := 6) (v := (.int .i64 (j : Int))) rfl (by kernel_rfl) (by kernel_rfl) (by kernel_rfl) (fun _ _ _ h => h) (Or.inl ⟨by rfl, fun w' _ => by kernel_rfl⟩) hHeld ?_
      go_frame
      refine held_take (i := 7) (v := (.int .i64 ((j : Int) + 1))) rfl (by kernel_rfl) (by kernel_rfl) (by kernel_rfl) (fun _ _ _ h => h) (Or.inl ⟨by rfl, fun w' _ => by go_simp⟩) hHeld ?_
      go_frame
      refine held_take (i := 8) (v := (.slice (some ⟨b, o, none⟩) n cap)) rfl (by kernel_rfl) (by kernel_rfl) (by kernel_rfl) (fun _ _ _ h => h) (Or.inl ⟨by rfl, fun w' _ => by kernel_rfl⟩) hHeld ?_
      go_frame
      refine held_take (i := 9) (v := (.int .i64 (n : Int))) rfl (by kernel_rfl) (by kernel_rfl) (by kernel_rfl) (fun _ _ _ h => h) (Or.inl ⟨by rfl, fun w' _ => by kernel_rfl⟩) hHeld ?_
      go_frame
      refine held_take (i := 10) (v := (.int .i64 ((n : Int) - 1))) rfl (by kernel_rfl) (by kernel_rfl) (by kernel_rfl) (fun _ _ _ h => h) (Or.inl ⟨by rfl, fun w' _ => by go_simp⟩) hHeld ?_
      go_frame
      refine held_take (i := 11) (v := (.int .i64 (p : Int))) rfl (by kernel_rfl) (by kernel_rfl) (by kernel_rfl) (fun _ _ _ h => h) (Or.inl ⟨by rfl, fun w' _ => by go_simp; rw [HM.out]⟩) hHeld ?_
      go_frame
      refine held_take (i := 12) (v := (.pointer (some ⟨b, o + p * 32, none⟩))) rfl (by kernel_rfl) (by kernel_rfl) (by kernel_rfl) (fun _ _ _ h => h) (Or.inl ⟨by rfl, fun w' _ => by go_simp⟩) hHeld ?_
      go_frame
      refine held_take (i := 13) (v := (.agg (y.map bV).toArray)) rfl (by kernel_rfl) (by kernel_rfl) (by kernel_rfl) (fun _ _ _ h => h) (yieldsIf_load_mid (by rfl) 24 (.tmp 23) rfl b (o + p * 32) rfl (y.map bV) _ (fun w' hw' => range_below HY.out hw') Tryd.underlying24 rfl (by rw [List.length_map, LY.out]; kernel_rfl)) hHeld ?_
      go_frame
      refine wpAnyH_ready (rs := [14]) (by kernel_rfl) (by simp) (held_cons rfl (fun K hK => ?_) AllReadyH.nil)
      go_simp
      refine (pair_any x y LX'.out LY'.out _).mono ?_
      rintro e w4 ⟨rfl, bb⟩
      have HO4 := Lib.hid (HO3.out.keep bb)
      have hw4 := hHeld.trans (bb.mono hHeld.size)
      clear bb hHeld
      go_wp2_with fail
      refine hK.out _ _ hw4 (fun hHeld => ?_)
      clear hK K hw4
      refine wpAnyH_ready (rs := [15]) (by kernel_rfl) (by simp) (held_cons rfl (fun K hK => ?_) AllReadyH.nil)
      rw [if_pos (by rfl)]
      refine wp_slice_one 22 24 (.tmp 25) rfl ((prH x y).map bV) rfl Tryd.underlying22 i0 _ hi hz0 (by rw [hz1, LP.out]) (by rw [LP.out]; omega) (by rw [LP.out]; omega) ?_
      have nf := heap_alloc_new w4 (.cells ((prH x y).map bV).toArray 24 (0, 0))
      have bb := (Below.refl w4.heap.size w4).alloc (Nat.le_refl _) (.cells ((prH x y).map bV).toArray 24 (0, 0))
      obtain ⟨gn, hgn⟩ : ∃ gn, gn = w4.heap.size := ⟨_, rfl⟩
      generalize hw5 : World.alloc _ _ = w5
      have e5 : w4.alloc (.cells ((prH x y).map bV).toArray 24 (0, 0)) = w5 := hw5
      rw [e5] at nf bb
      rw [← hgn] at nf ⊢
      have NF := Lib.hid nf
      have HO5 := Lib.hid (HO4.out.keep bb)
      have hb5 := hHeld.trans (bb.mono hHeld.size)
      clear nf bb hw5 e5 hgn hHeld
      go_frame
      refine hK.out _ _ hb5 (fun hHeld => ?_)
      clear hK K hb5
      refine wpAnyH_ready (rs := [16]) (by kernel_rfl) (by simp) (held_cons rfl (fun K hK => ?_) AllReadyH.nil)
      rw [if_pos (by rfl)]
      refine wp_append_row w5 (.tmp 11) (.tmp 26) 22 rfl w.heap.size 24 i0 (.agg (List.replicate 32 (bV 0)).toArray) 32 32 Tryd.underlying22 hi hz0 hz1 hz2 (by kernel_rfl) (by decide) vb _ (hsL ((rowL prH l).take k)) rfl HO5.out.1 ⟨gn, 0, none⟩ 1 1 ((prH x y).map bV) rfl (by rw [LP.out]) (hs_one NF.out) (bV_one' _) (by have := LK.out; unfold maxLen; omega) (by have := LK.out; omega) hHeld.size ?_
      intro v6 w6 q1 q2 _
      have HO6 := Lib.hid (HsOwn.push (base := w.heap.size) HO5.out.2 (prH_length x y) q1)
      have hb6 := own_grown hHeld (Nat.le_refl _) hHeld.size HO5.out.1 q2
      clear q1 q2 hHeld
      go_frame
      refine hK.out _ _ hb6 (fun hHeld => ?_)
      clear hK K hb6
      refine held_take (i := 17) (v := v6) rfl (by kernel_rfl) (by kernel_rfl) (by kernel_rfl) (fun _ _ _ h => h) (Or.inl ⟨by rfl, fun w' _ => by kernel_rfl⟩) hHeld ?_
      go_frame
      refine wpAnyH_done (by kernel_rfl) ?_ _
      have HB6 := Lib.hid hHeld
      clear hHeld
      go_wp2_with fail
      go_roundw
      case rel =>
        refine ⟨k + 1, j + 2, _, rfl, by omega, by have := HJ.out; omega, by go_num, ?_, HB6.out⟩
        rw [HT.out]
        exact HO6.out
      case measure => simp [intOf]; omega
    · have HF : Hid (HsOwn w.heap.size wr vb (rowL prH l)) := by
        have h := HO.out
        rw [List.take_of_length_le (by rw [LROW.out]; have := HLN.out; omega)] at h
        exact h
      have hge : ¬ (j : Int) < (n : Int) := by omega
      clear HO hj
      go_wp2_with fail
      go_ret
      exact ⟨_, rfl, HF.out, HB.out⟩
end Go.Proofs.YtaeebcedobkopaaDoor.Sha

/-
  The statements' own Root answers the root. Nothing that was there turns. Conditions: the digests lie where the slice says; at most 2^20 of them.
-/
namespace Go.Proofs.YtaeebcedobkopaaDoor.Sha
open Go Go.RowKit
def rootRInv (R : List UInt8) (w : World) (vl : Value) (wr : World) : Prop :=
  ∃ l' : List (List UInt8), HsAt wr vl l' ∧ 1 ≤ l'.length ∧ l'.length ≤ 1048576 ∧ rootL prH zM l' = R ∧ Below w.heap.size w wr ∧ wr.heap[w.heap.size]? = some (.cells (List.replicate 32 (bV 0)).toArray 24 (0, 0))
set_option maxHeartbeats 2000000 in
set_option maxRecDepth 100000 in
theorem rootR_any (l : List (List UInt8)) (sp : Option Addr) (n cap : Nat) (w : World) (hl : HsAt w (.slice sp n cap) l) (hn : n ≤ 1048576) :
    Calls Tryd.prog 15 #[.slice sp n cap] w fun e w' => e = .returned (.agg ((rootL prH zM l).map bV).toArray) ∧ Below w.heap.size w w' := by
  have hlen := rootL_len _ l rfl hl.1
  have hln := hl.len.1
  have h0r : n = 0 → rootL prH zM l = zM := fun h => by
    rw [rootL_one prH zM (by omega), List.getD_eq_getElem?_getD, List.getElem?_eq_none (by omega)]
    rfl
  obtain ⟨R, hR⟩ : ∃ R, R = rootL prH zM l := ⟨_, rfl⟩
  rw [← hR] at hlen h0r ⊢
  have HR := Lib.hid hR
  have HS : Hid ((R.map bV).toArray.size = 32) := by show _ = _; simp [hlen]
  have HLR : Hid ((R.map bV).length = 32) := by show _ = _; simp [hlen]
  have HZ := Lib.hid h0r
  have HL := Lib.hid hl
  have HN := Lib.hid hln

  clear hR hlen hl hln h0r
  go_enter Tryd.func15, Tryd.ntmps15
  go_upto_region 1 with fail
  have F := Lib.hid (heap_alloc_new w (.cells (List.replicate 32 (bV 0)).toArray 24 (0, 0)))
  have B := Lib.hid ((Below.refl w.heap.size w).alloc (Nat.le_refl _) (.cells (List.replicate 32 (bV 0)).toArray 24 (0, 0)))
  generalize hw1 : World.alloc _ _ = w1
  have e1 : w.alloc (.cells (List.replicate 32 (bV 0)).toArray 24 (0, 0)) = w1 := hw1
  rw [e1] at F B
  clear hw1 e1
  by_cases h0 : n = 0
  · have t0 : ((n : Int) == 0) = true := by rw [beq_iff_eq]; omega
    obtain rfl : R = zM := HZ.out h0
    clear h0
    go_wp2_with ((with_reducible show wpList _ _ _ _ _ _); refine wpList_store_row rfl 24 (.tmp 2) (.tmp 6) rfl w.heap.size (zM.map bV).toArray rfl rfl 24 _ F.out (by rw [HS.out]; kernel_rfl) (by rw [HS.out]; rfl) (bV_one _) ?_; go_frame)
    refine bodyPost_ret (results_cell_row rfl _ _ w.heap.size 24 (zM.map bV).toArray (0, 0) (.array 32 5) rfl (setRow_heap _ _ _ _ _ _ F.out) Tryd.underlying24 rfl (by rw [HS.out]; kernel_rfl)) rfl ⟨rfl, below_setRow B.out (Nat.le_refl _) _⟩
  · have t0 : ((n : Int) == 0) = false := by rw [beq_eq_false_iff_ne]; omega
    have h1 : 1 ≤ n := by omega
    clear h0
    go_wp2_with fail
    go_loopw [0] (fun vl wr => rootRInv R w vl wr) (fun vl _ => slLen vl)
    case atStart => exact ⟨l, HL.out.below B.out, by have := HN.out; omega, by have := HN.out; omega, HR.out.symm, B.out, F.out⟩
    case round =>
      clear F B HL HN HR
      obtain ⟨l', hl, hm1, hm2, hr, hb, hf⟩ := hrel
      obtain ⟨sp', cap', rfl⟩ := hl.shape
      obtain ⟨m, hm⟩ : ∃ m, m = l'.length := ⟨_, rfl⟩
      rw [← hm] at hl hm1 hm2 ⊢
      have HL := Lib.hid hl
      have HM := Lib.hid hm
      have HR := Lib.hid hr
      have B := Lib.hid hb
      have F := Lib.hid hf
      clear hl hm hr hb hf
      by_cases h1m : 1 < m
      · have t1 : (m : Int) > 1 := by omega
        go_wp2_with fail
        refine (row_ref l' sp' m cap' _ HL.out hm2).mono ?_
        rintro e w2 ⟨v2, rfl, ho, hb2⟩
        obtain ⟨sp2, cap2, rfl⟩ := ho.at.shape
        obtain ⟨m2, hm3⟩ : ∃ m2, m2 = (rowL prH l').length := ⟨_, rfl⟩
        have hm4 : m2 = (m + 1) / 2 := by rw [hm3, rowL_length, ← HM.out]
        have HO := Lib.hid ho
        rw [← hm3] at HO ⊢
        have HM3 := Lib.hid hm3
        have B2 := Lib.hid (B.out.trans (hb2.mono B.out.size))
        have F2 := Lib.hid (row_below F.out hb2)
        have hm5 : 1 ≤ m2 := by omega
        have hm6 : m2 < m := by omega
        have HR2 : Hid (rootL prH zM (rowL prH l') = R) := by
          show _ = _
          rw [← rootL_more prH zM (by rw [← HM.out]; exact h1m)]
          exact HR.out
        clear ho hm3 hb2 hm4
        go_wp2_with fail
        go_roundw
        case rel => exact ⟨rowL prH l', HO.out.at, by rw [← HM3.out]; exact hm5, by rw [← HM3.out]; omega, HR2.out, B2.out, F2.out⟩
        case measure => exact hm6
      · have t1 : ¬ (m : Int) > 1 := by omega
        obtain rfl : m = 1 := by omega
        obtain ⟨b, o, rfl, hbw, hg⟩ := HL.out.get (by omega)
        have X : Hid (wr.rangeAt b o (R.map bV)) := by
          have h := hg 0 (by omega)
          rw [Nat.zero_mul, Nat.add_zero, getD_any (by have := HM.out; omega), ← rootL_one prH zM (by have := HM.out; omega), HR.out] at h
          exact h
        clear hg
        go_wp2_with ((with_reducible show wpList _ _ _ _ _ _); first | (refine wpList_load_mid rfl 24 (.tmp 13) rfl b o rfl (R.map bV) _ X.out Tryd.underlying24 rfl (by rw [HLR.out]; kernel_rfl) ?_; go_frame) | (refine wpList_store_row rfl 24 (.tmp 2) (.tmp 14) rfl w.heap.size (R.map bV).toArray rfl rfl 24 _ F.out (by rw [HS.out]; kernel_rfl) (by rw [HS.out]; rfl) (bV_one _) ?_; go_frame))
        refine bodyPost_ret (results_cell_row rfl _ _ w.heap.size 24 (R.map bV).toArray (0, 0) (.array 32 5) rfl (setRow_heap _ _ _ _ _ _ F.out) Tryd.underlying24 rfl (by rw [HS.out]; kernel_rfl)) rfl ⟨rfl, below_setRow B.out (Nat.le_refl _) _⟩
end Go.Proofs.YtaeebcedobkopaaDoor.Sha

/-
  The statements' own Path answers the way from below. New memory; nothing that was there turns. Conditions: the digests lie where the slice says; at most 2^20 of them.
-/
namespace Go.Proofs.YtaeebcedobkopaaDoor.Sha
open Go Go.RowKit
set_option maxHeartbeats 4000000 in
set_option maxRecDepth 100000 in
theorem pathR_in (k0 : Nat) (l : List (List UInt8)) (sp : Option Addr) (n cap : Nat) (w : World) (hl : HsAt w (.slice sp n cap) l) (hn : n ≤ 1048576) (hkn : k0 < n) :
    Calls Tryd.prog 10 #[.int .i64 k0, .slice sp n cap] w fun e w' => ∃ v, e = .returned (.tuple #[v, .bool true]) ∧ HsOwn w.heap.size w' v (pathL prH zM k0 l) ∧ Below w.heap.size w w' := by
  obtain ⟨i0, hi, hz0, hz1, hz2⟩ := info_parts info_hash
  have hpl : (pathL prH zM k0 l).length ≤ 20 := by
    rw [pathL_length prH zM _ l k0 rfl, ← hl.len.1]
    exact rowsN_le n 20 (by omega)
  have HN := Lib.hid hl.len.1
  obtain ⟨P, hP⟩ : ∃ P, P = pathL prH zM k0 l := ⟨_, rfl⟩
  rw [← hP] at hpl ⊢
  have HPP := Lib.hid hP
  have HPL := Lib.hid hpl
  have HL0 := Lib.hid hl

  have s0 : ¬ (k0 : Int) < 0 := by omega
  have s1 : ¬ (k0 : Int) ≥ (n : Int) := by omega
  clear hl hP hpl
  go_enter Tryd.func10, Tryd.ntmps10
  go_wp2_with fail
  go_loopw [0, 1, 6] (fun va vl vp wr => pathInv P w va vl vp wr) (fun _ vl _ _ => slLen vl)
  case atStart => exact ⟨k0, l, [], _, rfl, rfl, HL0.out, by rw [← HN.out]; exact hkn, by rw [← HN.out]; exact hn, HPP.out.symm, HsOwn.nil _ _, Off.none _, Below.refl _ _⟩
  case round =>
    clear HL0 HN HPP s0 s1
    obtain ⟨k, l', done, vb, rfl, rfl, hl, hkm, hm2, hd, ho, hof, hb⟩ := hrel
    obtain ⟨sp', cap', rfl⟩ := hl.shape
    obtain ⟨m, hm⟩ : ∃ m, m = l'.length := ⟨_, rfl⟩
    rw [← hm] at hl hkm hm2 hof ⊢
    have HL := Lib.hid hl
    have HM := Lib.hid hm
    have HD := Lib.hid hd
    have HO := Lib.hid ho
    have OF := Lib.hid hof
    have B := Lib.hid hb
    have HKM := Lib.hid hkm
    have k00 : 0 ≤ (k : Int) := by omega
    clear hl hm hd ho hof hb
    skip
    by_cases h1m : 1 < m
    · have t1 : (m : Int) > 1 := by omega
      obtain ⟨b, o, rfl, hbw, hg⟩ := HL.out.get (by omega)
      obtain ⟨p, hp⟩ : ∃ p, p = otherN k m := ⟨_, rfl⟩
      have hpm : p < m := by rw [hp]; exact otherN_lt hkm
      obtain ⟨x, hx⟩ : ∃ x, x = l'.getD p [] := ⟨_, rfl⟩
      have HX := Lib.hid (hg p hpm)
      rw [← hx] at HX
      have lx : x.length = 32 := by rw [hx]; exact HL.out.1.get (by have := HM.out; omega)
      have LXL := Lib.hid lx
      have LX : Hid ((x.map bV).length = 32) := by show _ = _; rw [List.length_map, lx]
      have he : (done ++ [x]) ++ pathL prH zM (k / 2) (rowL prH l') = P := by
        have h := HD.out
        rw [pathL_more prH zM k (by rw [← HM.out]; exact h1m), ← HM.out, ← hp, ← getD_any (by rw [← HM.out]; exact hpm), ← hx] at h
        rw [List.append_assoc]
        exact h
      have HE := Lib.hid he
      have hdl : done.length + 1 ≤ 20 := by
        have h := congrArg List.length he
        rw [List.length_append, List.length_append, List.length_singleton] at h
        have := HPL.out
        omega
      have HDL := Lib.hid hdl
      have HP := Lib.hid hp
      have p0 : 0 ≤ (p : Int) := by omega
      have q0 : (p : Int) < (m : Int) := by omega
      clear hg hp hx lx he hdl
      have hx1 := bits_xor_i64_one k (by omega)
      obtain ⟨z, hz⟩ : ∃ z, z = k ^^^ 1 := ⟨_, rfl⟩
      have hz2' := xor_one k
      have HOT : Hid ((m ≤ z → p = k) ∧ (z < m → p = z)) := by
        show _ ∧ _
        rw [hz, HP.out]
        unfold otherN
        rw [hz2']
        constructor
        · intro h
          split at h <;> split <;> (try split) <;> omega
        · intro h
          split at h <;> split <;> (try split) <;> omega
      rw [← hz] at hx1
      clear hz2' hz
      by_cases hzm : m ≤ z
      · obtain rfl : p = k := HOT.out.1 hzm
        have t2 : (z : Int) ≥ (m : Int) := by omega
        clear HOT
        go_wp2_with (first | ((with_reducible show wpList _ _ _ _ _ _); first | (refine wpList_load_mid rfl 24 (.tmp 29) rfl b (o + p * 32) rfl (x.map bV) _ HX.out Tryd.underlying24 rfl (by rw [LX.out]; kernel_rfl) ?_; go_frame) | (refine wpList_slice_one rfl 22 24 (.tmp 30) rfl (x.map bV) rfl Tryd.underlying22 i0 _ hi hz0 (by rw [hz1, LX.out]) (by rw [LX.out]; omega) (by rw [LX.out]; omega) ?_; have nf := heap_alloc_new wr (.cells (x.map bV).toArray 24 (0, 0)); have bb := (Below.refl wr.heap.size wr).alloc (Nat.le_refl _) (.cells (x.map bV).toArray 24 (0, 0)); obtain ⟨gn, hgn⟩ : ∃ gn, gn = wr.heap.size := ⟨_, rfl⟩; generalize hw2 : World.alloc _ _ = w2; have e2 : wr.alloc (.cells (x.map bV).toArray 24 (0, 0)) = w2 := hw2; rw [e2] at nf bb; rw [← hgn] at nf ⊢; have NF := Lib.hid nf; have HO2 := Lib.hid (HO.out.keep bb); have HL2 := Lib.hid (HL.out.below bb); have B2 := Lib.hid (B.out.trans (bb.mono B.out.size)); clear nf bb hw2 e2 hgn; go_frame)) | (at_builtin; refine wpList_append_own_at _ rfl _ _ 22 rfl w.heap.size 24 i0 (.agg (List.replicate 32 (bV 0)).toArray) 32 32 Tryd.underlying22 hi hz0 hz1 hz2 (by kernel_rfl) (by decide) vb _ (hsL done) rfl HO2.out.1 ⟨gn, 0, none⟩ 1 1 (x.map bV) rfl (by rw [LX.out]) (hs_one NF.out) (bV_one' _) (by have := HDL.out; unfold maxLen; omega) (by have := HDL.out; omega) B2.out.size ?_; intro v3 w3 q1 q2 _ q4; have HO3 := Lib.hid (HsOwn.push (base := w.heap.size) HO2.out.2 LXL.out q1); have HL3 := Lib.hid (HL2.out.off OF.out q2); have B3 := Lib.hid (own_grown B2.out (Nat.le_refl _) B2.out.size HO2.out.1 q2); clear q1 q2 q4; go_frame))
        refine (row_ref l' _ m cap' _ HL3.out hm2).mono ?_
        rintro e w4 ⟨v4, rfl, ho, hb4⟩
        obtain ⟨sp4, cap4, rfl⟩ := ho.at.shape
        obtain ⟨m4, hm4⟩ : ∃ m4, m4 = (rowL prH l').length := ⟨_, rfl⟩
        have hm5 : m4 = (m + 1) / 2 := by rw [hm4, rowL_length, ← HM.out]
        have HO4 := Lib.hid ho
        have HO5 := Lib.hid (HO3.out.keep hb4)
        have OF4 := Lib.hid (off_new (u := v3) ho (HO3.out.lt))
        rw [← hm4] at HO4 OF4 ⊢
        have HM4 := Lib.hid hm4
        have B4 := Lib.hid (B3.out.trans (hb4.mono B3.out.size))
        have hk2 : p / 2 < m4 := by omega
        have hm6 : m4 < m := by omega
        clear ho hm4 hb4 hm5
        go_wp2_with fail
        go_roundw
        case rel => exact ⟨p / 2, rowL prH l', done ++ [x], _, rfl, (congrArg (Value.int .i64) (by omega)), HO4.out.at, by rw [← HM4.out]; exact hk2, by rw [← HM4.out]; omega, HE.out, HO5.out, OF4.out, B4.out⟩
        case measure => exact hm6
      · obtain rfl : p = z := HOT.out.2 (by omega)
        have t2 : ¬ (p : Int) ≥ (m : Int) := by omega
        clear HOT
        go_wp2_with (first | ((with_reducible show wpList _ _ _ _ _ _); first | (refine wpList_load_mid rfl 24 (.tmp 29) rfl b (o + p * 32) rfl (x.map bV) _ HX.out Tryd.underlying24 rfl (by rw [LX.out]; kernel_rfl) ?_; go_frame) | (refine wpList_slice_one rfl 22 24 (.tmp 30) rfl (x.map bV) rfl Tryd.underlying22 i0 _ hi hz0 (by rw [hz1, LX.out]) (by rw [LX.out]; omega) (by rw [LX.out]; omega) ?_; have nf := heap_alloc_new wr (.cells (x.map bV).toArray 24 (0, 0)); have bb := (Below.refl wr.heap.size wr).alloc (Nat.le_refl _) (.cells (x.map bV).toArray 24 (0, 0)); obtain ⟨gn, hgn⟩ : ∃ gn, gn = wr.heap.size := ⟨_, rfl⟩; generalize hw2 : World.alloc _ _ = w2; have e2 : wr.alloc (.cells (x.map bV).toArray 24 (0, 0)) = w2 := hw2; rw [e2] at nf bb; rw [← hgn] at nf ⊢; have NF := Lib.hid nf; have HO2 := Lib.hid (HO.out.keep bb); have HL2 := Lib.hid (HL.out.below bb); have B2 := Lib.hid (B.out.trans (bb.mono B.out.size)); clear nf bb hw2 e2 hgn; go_frame)) | (at_builtin; refine wpList_append_own_at _ rfl _ _ 22 rfl w.heap.size 24 i0 (.agg (List.replicate 32 (bV 0)).toArray) 32 32 Tryd.underlying22 hi hz0 hz1 hz2 (by kernel_rfl) (by decide) vb _ (hsL done) rfl HO2.out.1 ⟨gn, 0, none⟩ 1 1 (x.map bV) rfl (by rw [LX.out]) (hs_one NF.out) (bV_one' _) (by have := HDL.out; unfold maxLen; omega) (by have := HDL.out; omega) B2.out.size ?_; intro v3 w3 q1 q2 _ q4; have HO3 := Lib.hid (HsOwn.push (base := w.heap.size) HO2.out.2 LXL.out q1); have HL3 := Lib.hid (HL2.out.off OF.out q2); have B3 := Lib.hid (own_grown B2.out (Nat.le_refl _) B2.out.size HO2.out.1 q2); clear q1 q2 q4; go_frame))
        refine (row_ref l' _ m cap' _ HL3.out hm2).mono ?_
        rintro e w4 ⟨v4, rfl, ho, hb4⟩
        obtain ⟨sp4, cap4, rfl⟩ := ho.at.shape
        obtain ⟨m4, hm4⟩ : ∃ m4, m4 = (rowL prH l').length := ⟨_, rfl⟩
        have hm5 : m4 = (m + 1) / 2 := by rw [hm4, rowL_length, ← HM.out]
        have HO4 := Lib.hid ho
        have HO5 := Lib.hid (HO3.out.keep hb4)
        have OF4 := Lib.hid (off_new (u := v3) ho (HO3.out.lt))
        rw [← hm4] at HO4 OF4 ⊢
        have HM4 := Lib.hid hm4
        have B4 := Lib.hid (B3.out.trans (hb4.mono B3.out.size))
        have hk2 : k / 2 < m4 := by omega
        have hm6 : m4 < m := by omega
        clear ho hm4 hb4 hm5
        go_wp2_with fail
        go_roundw
        case rel => exact ⟨k / 2, rowL prH l', done ++ [x], _, rfl, (congrArg (Value.int .i64) (by omega)), HO4.out.at, by rw [← HM4.out]; exact hk2, by rw [← HM4.out]; omega, HE.out, HO5.out, OF4.out, B4.out⟩
        case measure => exact hm6
    · have t1 : ¬ (m : Int) > 1 := by omega
      have HF : Hid (HsOwn w.heap.size wr vb P) := by
        have h := HD.out
        rw [pathL_one prH zM k (by rw [← HM.out]; omega), List.append_nil] at h
        rw [← h]
        exact HO.out
      go_wp2_with fail
      go_ret2
      exact ⟨_, rfl, HF.out, B.out⟩
set_option maxRecDepth 100000 in
theorem pathR_out (x : Int) (sp : Option Addr) (n cap : Nat) (w : World) (hx : x < 0 ∨ (n : Int) ≤ x) :
    Calls Tryd.prog 10 #[.int .i64 x, .slice sp n cap] w fun e w' => e = .returned (.tuple #[.slice none 0 0, .bool false]) ∧ w = w' := by
  rcases Int.lt_or_le x 0 with h | h
  · clear hx
    go_enter Tryd.func10, Tryd.ntmps10
    go_wp2_with fail
    go_ret2
    exact ⟨rfl, rfl⟩
  · have h2 : x ≥ (n : Int) := by omega
    have h3 : ¬ x < 0 := by omega
    clear hx
    go_enter Tryd.func10, Tryd.ntmps10
    go_wp2_with fail
    go_ret2
    exact ⟨rfl, rfl⟩
end Go.Proofs.YtaeebcedobkopaaDoor.Sha
