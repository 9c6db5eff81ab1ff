/-
  Package tx writes an input and an output down, in new memory. Nothing that was there turns. Conditions: an input whose key lies in memory; a key of fewer than 2^45 bytes.
-/
import Derived.Test.YtkabpbclmhmgfaaTxNew
namespace Go.Proofs.Ytkabpbclmhmgfaa.Sha
open Go Go.RowKit

set_option maxHeartbeats 1000000 in
set_option maxRecDepth 100000 in
theorem outBytes_any (y : TOut) (hy : OutOk y) (w : World) :
    Calls Try.prog 18 #[.agg (outL y).toArray] w fun e w' => ∃ v, e = .returned v ∧ CopyB w w' v (outB y) := by
  have YOK := Lib.hid hy
  obtain ⟨i0, hi, hz0, hz1, hz2⟩ := info_parts info_u8
  have hl : (outL y).length = 33 := outL_length y hy.1
  obtain ⟨cs, hcs⟩ : ∃ cs, cs = outL y := ⟨_, rfl⟩
  have LO : Hid (cs.toArray.size = 33) := by show _ = _; rw [hcs, List.size_toArray]; exact hl
  rw [← hcs]
  have CS := Lib.hid hcs
  clear hcs hl hy
  go_enter Try.func18, Try.ntmps18
  go_upto_region 1 with fail
  have F := Lib.hid (heap_alloc_new w (.cells cs.toArray 39 (0, 0)))
  have B0 := Lib.hid ((Below.refl w.heap.size w).alloc (Nat.le_refl _) (.cells cs.toArray 39 (0, 0)))
  generalize hw1 : World.alloc _ _ = w1
  have e1 : w.alloc (.cells cs.toArray 39 (0, 0)) = w1 := hw1
  rw [e1] at F B0
  clear hw1 e1
  have CV : Hid (∀ w', Below w1.heap.size w1 w' → w'.cell? ⟨w.heap.size, 0, none⟩ = some (.int .u64 (y.val : Int))) := fun w' hw' => by
    rw [cell_of_row _ _ _ _ _ _ (row_below F.out hw'), CS.out]
    rfl
  have CL : Hid (∀ w', Below w1.heap.size w1 w' → SrcB w' (.slice (some ⟨w.heap.size, 1, none⟩) 32 32) y.lock) := fun w' hw' => by
    have h := row_below F.out hw'
    rw [CS.out] at h
    have := out_lock (range_of_box h)
    exact src_range this YOK.out.1.symm (by omega) (Nat.le_refl _)
  obtain ⟨base, hbase⟩ : ∃ base, base = w1.heap.size := ⟨_, rfl⟩
  refine wp_region_held_drew (S := (fun w' => Below w1.heap.size w1 w')) (by kernel_rfl) (Below.drew (Below.refl _ _)) (fun hHeld => ?_)
  generalize hwd : w1.drew = wd
  rw [hwd] at hHeld
  clear hwd
  refine held_take (i := 0) (v := (.pointer (some ⟨w.heap.size, 0, none⟩))) rfl (by kernel_rfl) (by kernel_rfl) (by kernel_rfl) (fun _ _ _ h => h) (Or.inl ⟨by rfl, fun w' _ => by kernel_rfl⟩) hHeld ?_
  go_frame
  refine held_take (i := 1) (v := (.int .u64 (y.val : Int))) rfl (by kernel_rfl) (by kernel_rfl) (by kernel_rfl) (fun _ _ _ h => h) (yieldsIf_load_one (by rfl) 37 (.tmp 3) rfl w.heap.size (0) rfl _ _ (fun w' hw' => CV.out w' hw') Try.underlying37 rfl) hHeld ?_
  go_frame
  refine held_take (i := 3) (v := (.pointer (some ⟨w.heap.size, 1, none⟩))) rfl (by kernel_rfl) (by kernel_rfl) (by kernel_rfl) (fun _ _ _ h => h) (Or.inl ⟨by rfl, fun w' _ => by kernel_rfl⟩) hHeld ?_
  go_frame
  refine held_take (i := 4) (v := (.slice (some ⟨w.heap.size, 1, none⟩) 32 32)) rfl (by kernel_rfl) (by kernel_rfl) (by kernel_rfl) (fun _ _ _ h => h) (Or.inl ⟨by rfl, fun w' _ => by kernel_rfl⟩) hHeld ?_
  go_frame
  refine wpAnyH_ready (rs := [2]) (by kernel_rfl) (by simp) (held_cons rfl (fun K hK => ?_) AllReadyH.nil)
  go_simp
  refine (eight_new [] _ y.val wd (nil_src _) (by simp)).mono ?_
  rintro e w2 ⟨s2, n2, c2, rfl, hn2, hc2⟩
  have C2 := Lib.hid (hc2.start hHeld)
  have HE := Lib.hid (hHeld.trans (hc2.2.mono hHeld.size))
  clear hHeld hc2 hn2
  go_wp2_with fail
  refine hK.out _ _ HE.out (fun hHeld => ?_)
  clear hK K HE
  refine wpAnyH_ready (rs := [5]) (by kernel_rfl) (by simp) (held_cons rfl (fun K hK => ?_) AllReadyH.nil)
  rw [if_pos (by rfl)]
  refine wp_append_g w2 (.tmp 5) (.tmp 7) 34 rfl w1.heap.size 5 i0 Try.underlying34 hi hz0 hz1 hz2 _ _ _ rfl C2.out.1 (.slice (some ⟨w.heap.size, 1, none⟩) 32 32) y.lock rfl (CL.out w2 hHeld) (by have := YOK.out.1; simp only [List.length_append, leB_length, List.length_nil]; omega) C2.out.2.size ?_
  intro v3 w3 a1 a2 a3
  have C3 := Lib.hid (C2.out.app a1 a2)
  clear a1 a2 a3 hHeld C2
  go_frame
  refine hK.out _ _ C3.out.2 (fun hHeld => ?_)
  clear hK K
  refine held_take (i := 6) (v := v3) rfl (by kernel_rfl) (by kernel_rfl) (by kernel_rfl) (fun _ _ _ h => h) (Or.inl ⟨by rfl, fun w' _ => by kernel_rfl⟩) hHeld ?_
  go_frame
  refine wpAnyH_done (by kernel_rfl) ?_ _
  clear hHeld
  go_wp2_with fail
  go_ret
  refine ⟨_, rfl, ?_⟩
  have h := C3.out.start B0.out
  rwa [List.nil_append] at h
set_option maxHeartbeats 1000000 in
set_option maxRecDepth 100000 in
theorem inBytes_any (x : TIn) (kx : Value) (hx : InOk x) (w : World) (hk : KeyAt w kx x.key) (hkl : x.key.length ≤ 35184372088832) :
    Calls Try.prog 17 #[.agg (inL x kx).toArray] w fun e w' => ∃ v, e = .returned v ∧ CopyB w w' v (inB x) := by
  have XOK := Lib.hid hx
  obtain ⟨i0, hi, hz0, hz1, hz2⟩ := info_parts info_u8
  obtain ⟨sx, cx, rfl⟩ := hk.2
  obtain ⟨kl, hkl2⟩ : ∃ kl, kl = x.key.length := ⟨_, rfl⟩
  have KS := Lib.hid hk.1
  have BKL := Lib.hid hkl
  rw [← hkl2] at KS ⊢
  have KL := Lib.hid hkl2
  have bkl : kl ≤ 35184372088832 := by rw [hkl2]; exact hkl
  obtain ⟨cs, hcs⟩ : ∃ cs, cs = inL x (.slice sx kl cx) := ⟨_, rfl⟩
  rw [← hcs]
  have CS := Lib.hid hcs
  clear hcs hx hk hkl hkl2
  go_enter Try.func17, Try.ntmps17
  go_upto_region 1 with fail
  have F := Lib.hid (heap_alloc_new w (.cells cs.toArray 36 (0, 0)))
  have B0 := Lib.hid ((Below.refl w.heap.size w).alloc (Nat.le_refl _) (.cells cs.toArray 36 (0, 0)))
  generalize hw1 : World.alloc _ _ = w1
  have e1 : w.alloc (.cells cs.toArray 36 (0, 0)) = w1 := hw1
  rw [e1] at F B0
  clear hw1 e1
  have RB : Hid (∀ w', Below w1.heap.size w1 w' → w'.rangeAt w.heap.size 0 (inL x (.slice sx kl cx))) := fun w' hw' => by
    have h := row_below F.out hw'
    rw [CS.out] at h
    exact range_of_box h
  have C32 : Hid (∀ w', Below w1.heap.size w1 w' → w'.cell? ⟨w.heap.size, 32, none⟩ = some (.int .u32 (x.n : Int))) := fun w' hw' => by simpa using in_num XOK.out.1 (RB.out w' hw')
  have C33 : Hid (∀ w', Below w1.heap.size w1 w' → w'.cell? ⟨w.heap.size, 33, none⟩ = some (.slice sx kl cx)) := fun w' hw' => by simpa using in_key XOK.out.1 (RB.out w' hw')
  have C34 : Hid (∀ w', Below w1.heap.size w1 w' → w'.cell? ⟨w.heap.size, 34, none⟩ = some (.int .u32 (x.seq : Int))) := fun w' hw' => by simpa using in_seq XOK.out.1 (RB.out w' hw')
  have CH : Hid (∀ w', Below w1.heap.size w1 w' → SrcB w' (.slice (some ⟨w.heap.size, 0, none⟩) 32 32) x.h) := fun w' hw' => src_range (in_hash (RB.out w' hw')) XOK.out.1.symm (by omega) (Nat.le_refl _)
  refine wp_region_held_drew (S := (fun w' => Below w1.heap.size w1 w')) (by kernel_rfl) (Below.drew (Below.refl _ _)) (fun hHeld => ?_)
  generalize hwd : w1.drew = wd
  rw [hwd] at hHeld
  clear hwd
  refine held_take (i := 0) (v := (.pointer (some ⟨w.heap.size, 0, none⟩))) rfl (by kernel_rfl) (by kernel_rfl) (by kernel_rfl) (fun _ _ _ h => h) (Or.inl ⟨by rfl, fun w' _ => by kernel_rfl⟩) hHeld ?_
  go_frame
  refine held_take (i := 1) (v := (.pointer (some ⟨w.heap.size, 0, none⟩))) rfl (by kernel_rfl) (by kernel_rfl) (by kernel_rfl) (fun _ _ _ h => h) (Or.inl ⟨by rfl, fun w' _ => by kernel_rfl⟩) hHeld ?_
  go_frame
  refine held_take (i := 2) (v := (.slice (some ⟨w.heap.size, 0, none⟩) 32 32)) rfl (by kernel_rfl) (by kernel_rfl) (by kernel_rfl) (fun _ _ _ h => h) (Or.inl ⟨by rfl, fun w' _ => by kernel_rfl⟩) hHeld ?_
  go_frame
  refine held_take (i := 3) (v := (.pointer (some ⟨w.heap.size, 0, none⟩))) rfl (by kernel_rfl) (by kernel_rfl) (by kernel_rfl) (fun _ _ _ h => h) (Or.inl ⟨by rfl, fun w' _ => by kernel_rfl⟩) hHeld ?_
  go_frame
  refine held_take (i := 4) (v := (.pointer (some ⟨w.heap.size, 32, none⟩))) rfl (by kernel_rfl) (by kernel_rfl) (by kernel_rfl) (fun _ _ _ h => h) (Or.inl ⟨by rfl, fun w' _ => by kernel_rfl⟩) hHeld ?_
  go_frame
  refine held_take (i := 5) (v := (.int .u32 (x.n : Int))) rfl (by kernel_rfl) (by kernel_rfl) (by kernel_rfl) (fun _ _ _ h => h) (yieldsIf_load_one (by rfl) 22 (.tmp 8) rfl w.heap.size (32) rfl _ _ (fun w' hw' => C32.out w' hw') Try.underlying22 rfl) hHeld ?_
  go_frame
  refine wpAnyH_ready (rs := [6]) (by kernel_rfl) (by simp) (held_cons rfl (fun K hK => ?_) AllReadyH.nil)
  go_simp
  refine (four_new x.h _ x.n wd (CH.out wd hHeld) (by have := XOK.out.1; omega) XOK.out.2.1).mono ?_
  rintro e w2 ⟨s2, n2, c2, rfl, hn2, hc2⟩
  have C2 := Lib.hid (hc2.start hHeld)
  have HE := Lib.hid (hHeld.trans (hc2.2.mono hHeld.size))
  clear hHeld hc2 hn2
  go_wp2_with fail
  refine hK.out _ _ HE.out (fun hHeld => ?_)
  clear hK K HE
  refine held_take (i := 7) (v := (.slice s2 n2 c2)) rfl (by kernel_rfl) (by kernel_rfl) (by kernel_rfl) (fun _ _ _ h => h) (Or.inl ⟨by rfl, fun w' _ => by kernel_rfl⟩) hHeld ?_
  go_frame
  refine wpAnyH_done (by kernel_rfl) ?_ _
  clear hHeld
  have k33 := C33.out w2 C2.out.2
  have u1 : IntKind.u64.wrap (kl : Int) = (kl : Int) := u64_stays (by omega)
  go_wp2_with fail
  refine (put_new _ _ kl w2 C2.out.src (by have := XOK.out.1; simp only [List.length_append, leB_length]; omega)).mono ?_
  rintro e w3 ⟨s3, n3, c3, rfl, hn3, hc3⟩
  have C3 := Lib.hid (hc3.start C2.out.2)
  clear hc3 hn3 k33 u1
  have k33 := C33.out w3 C3.out.2
  obtain ⟨A3, hA3⟩ : ∃ A3, A3 = x.h ++ leB x.n 4 ++ putL kl := ⟨_, rfl⟩
  rw [← hA3] at C3
  have LA3 : Hid (A3.length ≤ 45) := by show _ ≤ _; rw [hA3]; have := XOK.out.1; have := lenN_bd kl; simp only [List.length_append, leB_length, putL_length]; omega
  have HA3 := Lib.hid hA3
  clear hA3
  go_wp2_with ((with_reducible show wpList _ _ _ _ _ _); refine wpList_append_g w3 rfl (.tmp 17) (.tmp 19) 34 rfl w1.heap.size 5 i0 Try.underlying34 hi hz0 hz1 hz2 _ _ _ (by rfl) C3.out.1 (.slice sx kl cx) x.key (by rfl) ((KS.out.below B0.out).below C3.out.2) (by have := LA3.out; have := BKL.out; omega) C3.out.2.size ?_; intro v4 w4 a1 a2 a3; have C4 := Lib.hid (C3.out.app a1 a2); have k34 := C34.out w4 C4.out.2; clear a1 a2 a3; go_frame)
  refine (four_new (A3 ++ x.key) v4 x.seq w4 C4.out.src (by have := LA3.out; have := BKL.out; simp only [List.length_append]; omega) XOK.out.2.2).mono ?_
  rintro e w5 ⟨s5, n5, c5, rfl, hn5, hc5⟩
  have C5 := Lib.hid ((hc5.start C4.out.2).start B0.out)
  clear hc5 hn5
  go_wp2_with fail
  go_ret
  refine ⟨_, rfl, ?_⟩
  have h := C5.out
  rw [HA3.out, KL.out] at h
  exact h
end Go.Proofs.Ytkabpbclmhmgfaa.Sha
