/-
  Texts of this proof joined into one file: HdTake, TxTakeW. What each holds, and under which conditions, its own first sentence tells.
-/
import Derived.Test.YtdamhoagiooicaaGreatDoorMg16
import Derived.Test.YtdamhoagiooicaaGreatDoorMg13
import Derived.Test.YtdamhoagiooicaaGreatDoorMg09
/-
  Package head takes a header from a Reader. Nothing that was there turns but the Reader. Conditions: the Reader stands as it should; the errors are there.
-/
namespace Go.Proofs.YtdamhoagiooicaaGreatDoor.Sha
open Go Go.RowKit
theorem le4' {bs x b : List UInt8} {c d : Nat} (h : takeL 4 bs c = (x, b, d)) : leN x ≤ 4294967295 := by
  have hx : x.length ≤ 4 := by have := takeL_le 4 bs c; rw [h] at this; exact this
  have h1 := leN_lt x
  have h2 : 256 ^ x.length ≤ 256 ^ 4 := Nat.pow_le_pow_right (by omega) hx
  have h3 : (256 : Nat) ^ 4 = 4294967296 := rfl
  omega
theorem pad32 {bs x b : List UInt8} {c d : Nat} (h : takeL 32 bs c = (x, b, d)) : (padH x).length = 32 := padH_length (by have := takeL_le 32 bs c; rw [h] at this; exact this)
/-- A header out of its parts. -/
theorem hdP_laid (bs x1 b1 x2 b2 x3 b3 x4 b4 x5 b5 x6 b6 : List UInt8) (c d1 d2 d3 d4 d5 d6 : Nat) (h1 : takeL 4 bs c = (x1, b1, d1)) (h2 : takeL 32 b1 d1 = (x2, b2, d2)) (h3 : takeL 32 b2 d2 = (x3, b3, d3)) (h4 : takeL 4 b3 d3 = (x4, b4, d4)) (h5 : takeL 4 b4 d4 = (x5, b5, d5)) (h6 : takeL 4 b5 d5 = (x6, b6, d6)) :
    hdP bs c = (⟨leN x1, padH x2, padH x3, leN x4, leN x5, leN x6⟩, b6, d6) := by
  simp only [hdP, thenP, mapP, leP, h1, h2, h3, h4, h5, h6]
theorem noHd_Z : noHd = hdZ := rfl
theorem okNum {h : THd} : HdOk h ↔ h.ver ≤ 4294967295 ∧ h.prev.length = 32 ∧ h.root.length = 32 ∧ h.time ≤ 4294967295 ∧ h.work ≤ 4294967295 ∧ h.nonce ≤ 4294967295 := Iff.rfl
def HtPost (E : Nat → Addr) (m : Nat) (h : THd) (b : List UInt8) (d r : Nat) (w : World) (e : Ending) (w' : World) : Prop :=
  e = .returned (.agg (hdL h).toArray) ∧ RdI E m w' r b d ∧ w.grownBy w' (some r)
set_option maxHeartbeats 2000000 in
set_option maxRecDepth 100000 in
theorem take_hd (E : Nat → Addr) (m : Nat) (bs : List UInt8) (c r : Nat) (w : World) (hE : ErR w E r) (hr : RdI E m w r bs c) (hm : m < w.heap.size) (h : THd) (bz : List UInt8) (dz : Nat) (ht : takeHd bs c = (h, bz, dz)) :
    Calls Tryz.prog 74 #[.pointer (some ⟨r, 0, none⟩)] w (HtPost E m h bz dz r w) := by
  obtain ⟨x1, b1, d1, h1⟩ : ∃ x b d, takeL 4 bs c = (x, b, d) := ⟨_, _, _, rfl⟩
  obtain ⟨x2, b2, d2, h2⟩ : ∃ x b d, takeL 32 b1 d1 = (x, b, d) := ⟨_, _, _, rfl⟩
  obtain ⟨x3, b3, d3, h3⟩ : ∃ x b d, takeL 32 b2 d2 = (x, b, d) := ⟨_, _, _, rfl⟩
  obtain ⟨x4, b4, d4, h4⟩ : ∃ x b d, takeL 4 b3 d3 = (x, b, d) := ⟨_, _, _, rfl⟩
  obtain ⟨x5, b5, d5, h5⟩ : ∃ x b d, takeL 4 b4 d4 = (x, b, d) := ⟨_, _, _, rfl⟩
  obtain ⟨x6, b6, d6, h6⟩ : ∃ x b d, takeL 4 b5 d5 = (x, b, d) := ⟨_, _, _, rfl⟩
  unfold takeHd at ht
  rw [hdP_laid bs x1 b1 x2 b2 x3 b3 x4 b4 x5 b5 x6 b6 c d1 d2 d3 d4 d5 d6 h1 h2 h3 h4 h5 h6] at ht
  have l1 := le4' h1
  have l2 := pad32 h2
  have l3 := pad32 h3
  have l4 := le4' h4
  have l5 := le4' h5
  have l6 := le4' h6
  have T1 := Lib.hid h1
  have T2 := Lib.hid h2
  have T3 := Lib.hid h3
  have T4 := Lib.hid h4
  have T5 := Lib.hid h5
  have T6 := Lib.hid h6
  obtain ⟨V1, hV1⟩ : ∃ N, N = leN x1 := ⟨_, rfl⟩
  obtain ⟨V2, hV2⟩ : ∃ N, N = padH x2 := ⟨_, rfl⟩
  obtain ⟨V3, hV3⟩ : ∃ N, N = padH x3 := ⟨_, rfl⟩
  obtain ⟨V4, hV4⟩ : ∃ N, N = leN x4 := ⟨_, rfl⟩
  obtain ⟨V5, hV5⟩ : ∃ N, N = leN x5 := ⟨_, rfl⟩
  obtain ⟨V6, hV6⟩ : ∃ N, N = leN x6 := ⟨_, rfl⟩
  rw [← hV1, ← hV2, ← hV3, ← hV4, ← hV5, ← hV6] at ht
  rw [← hV1] at l1
  rw [← hV2] at l2
  rw [← hV3] at l3
  rw [← hV4] at l4
  rw [← hV5] at l5
  rw [← hV6] at l6
  have L1 := Lib.hid l1
  have L2 := Lib.hid l2
  have L3 := Lib.hid l3
  have L4 := Lib.hid l4
  have L5 := Lib.hid l5
  have L6 := Lib.hid l6
  have HTt := Lib.hid ht
  have HE := Lib.hid hE
  have HR := Lib.hid hr
  have HM := Lib.hid hm
  have HV1 := Lib.hid hV1
  have HV2 := Lib.hid hV2
  have HV3 := Lib.hid hV3
  have HV4 := Lib.hid hV4
  have HV5 := Lib.hid hV5
  have HV6 := Lib.hid hV6
  clear hE hr hm h1 h2 h3 h4 h5 h6 ht hV1 hV2 hV3 hV4 hV5 hV6 l1 l2 l3 l4 l5 l6
  go_enter Tryz.func74, Tryz.ntmps74
  go_upto_region 2 with fail
  rw [hd_zero]
  have hf3 : HdBox ((w.alloc (.cells (hdL hdZ).toArray 26)).alloc (.cells (hdL hdZ).toArray 26)) (w.heap.size + 1) hdZ := by
    have h := (hd_box (w.alloc (.cells (hdL hdZ).toArray 26)) hdZ).2
    rwa [World.size_alloc] at h
  have hf2 : HdBox ((w.alloc (.cells (hdL hdZ).toArray 26)).alloc (.cells (hdL hdZ).toArray 26)) w.heap.size hdZ := (hd_box w hdZ).2.below (hd_box _ hdZ).1
  have bb := (hd_box w hdZ).1.trans ((hd_box (w.alloc (.cells (hdL hdZ).toArray 26)) hdZ).1.mono (hd_box w hdZ).1.size)
  generalize hw0 : World.alloc (World.alloc w _) _ = w0
  rw [hw0] at hf3 hf2 bb
  obtain ⟨g3, hg3⟩ : ∃ g3, g3 = w.heap.size + 1 := ⟨_, rfl⟩
  obtain ⟨g2, hg2⟩ : ∃ g2, g2 = w.heap.size := ⟨_, rfl⟩
  have hrl := HR.out.lt
  have hml := HM.out
  have NR3 : Hid (r ≠ g3) := by show _ ≠ _; omega
  have NR2 : Hid (r ≠ g2) := by show _ ≠ _; omega
  have N32 : Hid (g3 ≠ g2) := by show _ ≠ _; omega
  have NM3 : Hid (m ≠ g3) := by show _ ≠ _; omega
  have NM2 : Hid (m ≠ g2) := by show _ ≠ _; omega
  have W3 : Hid (w.heap.size ≤ g3) := by show _ ≤ _; omega
  have W2 : Hid (w.heap.size ≤ g2) := by show _ ≤ _; omega
  rw [← hg2] at hf2
  rw [← hg3] at hf3
  rw [← hg3, ← hg2]
  have HF := Lib.hid hf3
  have HP := Lib.hid hf2
  have HG : Hid (w.grownBy w0 (some r)) := grownBy_of_below bb _
  have HRd := Lib.hid (HR.out.below bb)
  clear hf3 hf2 bb hw0 hg3 hg2 hrl hml
  go_wp2_with fail
  refine (four_is E m bs x1 b1 c d1 r w0 (HE.out.grown HG.out) HRd.out T1.out).mono ?_
  rintro e w1 ⟨rfl, i1, g1⟩
  have HRd := Lib.hid i1
  have HG := Lib.hid (grownBy_trans HG.out g1)
  have HF := Lib.hid (HF.out.far g1 NR3.out)
  have HP := Lib.hid (HP.out.far g1 NR2.out)
  clear i1 g1
  rw [← HV1.out]
  go_upto_region 3 with ((with_reducible show wpList _ _ _ _ _ _); refine st_ver (g := g3) (h := ⟨hdZ.ver, hdZ.prev, hdZ.root, hdZ.time, hdZ.work, hdZ.nonce⟩) rfl (.tmp 6) (.tmp 5) rfl rfl V1 rfl ⟨hdZ_ok.1, hdZ_ok.2.1, hdZ_ok.2.2.1, hdZ_ok.2.2.2.1, hdZ_ok.2.2.2.2.1, hdZ_ok.2.2.2.2.2⟩ HF.out ?_; intro w2 q1 q2; have HF : Hid (HdBox w2 g3 ⟨V1, hdZ.prev, hdZ.root, hdZ.time, hdZ.work, hdZ.nonce⟩) := Lib.hid q1; have HQ := Lib.hid q2; clear q1 q2; go_frame)
  have HRd := Lib.hid (HRd.out.grown HQ.out NR3.out.symm (fun _ => NM3.out))
  have HG := Lib.hid (gr_low HG.out HQ.out W3.out)
  have HP := Lib.hid (HP.out.far HQ.out N32.out)
  clear HQ
  go_wp2_with fail
  refine (hash_is E m b1 x2 b2 d1 d2 r w2 (HE.out.grown HG.out) HRd.out T2.out).mono ?_
  rintro e w3 ⟨rfl, i1, g1⟩
  have HRd := Lib.hid i1
  have HG := Lib.hid (grownBy_trans HG.out g1)
  have HF := Lib.hid (HF.out.far g1 NR3.out)
  have HP := Lib.hid (HP.out.far g1 NR2.out)
  clear i1 g1
  rw [← HV2.out]
  go_upto_region 4 with ((with_reducible show wpList _ _ _ _ _ _); refine st_prev (g := g3) (h := ⟨V1, hdZ.prev, hdZ.root, hdZ.time, hdZ.work, hdZ.nonce⟩) rfl (.tmp 9) (.tmp 8) rfl rfl V2 L2.out rfl ⟨L1.out, hdZ_ok.2.1, hdZ_ok.2.2.1, hdZ_ok.2.2.2.1, hdZ_ok.2.2.2.2.1, hdZ_ok.2.2.2.2.2⟩ HF.out ?_; intro w4 q1 q2; have HF : Hid (HdBox w4 g3 ⟨V1, V2, hdZ.root, hdZ.time, hdZ.work, hdZ.nonce⟩) := Lib.hid q1; have HQ := Lib.hid q2; clear q1 q2; go_frame)
  have HRd := Lib.hid (HRd.out.grown HQ.out NR3.out.symm (fun _ => NM3.out))
  have HG := Lib.hid (gr_low HG.out HQ.out W3.out)
  have HP := Lib.hid (HP.out.far HQ.out N32.out)
  clear HQ
  go_wp2_with fail
  refine (hash_is E m b2 x3 b3 d2 d3 r w4 (HE.out.grown HG.out) HRd.out T3.out).mono ?_
  rintro e w5 ⟨rfl, i1, g1⟩
  have HRd := Lib.hid i1
  have HG := Lib.hid (grownBy_trans HG.out g1)
  have HF := Lib.hid (HF.out.far g1 NR3.out)
  have HP := Lib.hid (HP.out.far g1 NR2.out)
  clear i1 g1
  rw [← HV3.out]
  go_upto_region 5 with ((with_reducible show wpList _ _ _ _ _ _); refine st_root (g := g3) (h := ⟨V1, V2, hdZ.root, hdZ.time, hdZ.work, hdZ.nonce⟩) rfl (.tmp 12) (.tmp 11) rfl rfl V3 L3.out rfl ⟨L1.out, L2.out, hdZ_ok.2.2.1, hdZ_ok.2.2.2.1, hdZ_ok.2.2.2.2.1, hdZ_ok.2.2.2.2.2⟩ HF.out ?_; intro w6 q1 q2; have HF : Hid (HdBox w6 g3 ⟨V1, V2, V3, hdZ.time, hdZ.work, hdZ.nonce⟩) := Lib.hid q1; have HQ := Lib.hid q2; clear q1 q2; go_frame)
  have HRd := Lib.hid (HRd.out.grown HQ.out NR3.out.symm (fun _ => NM3.out))
  have HG := Lib.hid (gr_low HG.out HQ.out W3.out)
  have HP := Lib.hid (HP.out.far HQ.out N32.out)
  clear HQ
  go_wp2_with fail
  refine (four_is E m b3 x4 b4 d3 d4 r w6 (HE.out.grown HG.out) HRd.out T4.out).mono ?_
  rintro e w7 ⟨rfl, i1, g1⟩
  have HRd := Lib.hid i1
  have HG := Lib.hid (grownBy_trans HG.out g1)
  have HF := Lib.hid (HF.out.far g1 NR3.out)
  have HP := Lib.hid (HP.out.far g1 NR2.out)
  clear i1 g1
  rw [← HV4.out]
  go_upto_region 6 with ((with_reducible show wpList _ _ _ _ _ _); refine st_time (g := g3) (h := ⟨V1, V2, V3, hdZ.time, hdZ.work, hdZ.nonce⟩) rfl (.tmp 15) (.tmp 14) rfl rfl V4 rfl ⟨L1.out, L2.out, L3.out, hdZ_ok.2.2.2.1, hdZ_ok.2.2.2.2.1, hdZ_ok.2.2.2.2.2⟩ HF.out ?_; intro w8 q1 q2; have HF : Hid (HdBox w8 g3 ⟨V1, V2, V3, V4, hdZ.work, hdZ.nonce⟩) := Lib.hid q1; have HQ := Lib.hid q2; clear q1 q2; go_frame)
  have HRd := Lib.hid (HRd.out.grown HQ.out NR3.out.symm (fun _ => NM3.out))
  have HG := Lib.hid (gr_low HG.out HQ.out W3.out)
  have HP := Lib.hid (HP.out.far HQ.out N32.out)
  clear HQ
  go_wp2_with fail
  refine (four_is E m b4 x5 b5 d4 d5 r w8 (HE.out.grown HG.out) HRd.out T5.out).mono ?_
  rintro e w9 ⟨rfl, i1, g1⟩
  have HRd := Lib.hid i1
  have HG := Lib.hid (grownBy_trans HG.out g1)
  have HF := Lib.hid (HF.out.far g1 NR3.out)
  have HP := Lib.hid (HP.out.far g1 NR2.out)
  clear i1 g1
  rw [← HV5.out]
  go_upto_region 7 with ((with_reducible show wpList _ _ _ _ _ _); refine st_work (g := g3) (h := ⟨V1, V2, V3, V4, hdZ.work, hdZ.nonce⟩) rfl (.tmp 18) (.tmp 17) rfl rfl V5 rfl ⟨L1.out, L2.out, L3.out, L4.out, hdZ_ok.2.2.2.2.1, hdZ_ok.2.2.2.2.2⟩ HF.out ?_; intro w10 q1 q2; have HF : Hid (HdBox w10 g3 ⟨V1, V2, V3, V4, V5, hdZ.nonce⟩) := Lib.hid q1; have HQ := Lib.hid q2; clear q1 q2; go_frame)
  have HRd := Lib.hid (HRd.out.grown HQ.out NR3.out.symm (fun _ => NM3.out))
  have HG := Lib.hid (gr_low HG.out HQ.out W3.out)
  have HP := Lib.hid (HP.out.far HQ.out N32.out)
  clear HQ
  go_wp2_with fail
  refine (four_is E m b5 x6 b6 d5 d6 r w10 (HE.out.grown HG.out) HRd.out T6.out).mono ?_
  rintro e w11 ⟨rfl, i1, g1⟩
  have HRd := Lib.hid i1
  have HG := Lib.hid (grownBy_trans HG.out g1)
  have HF := Lib.hid (HF.out.far g1 NR3.out)
  have HP := Lib.hid (HP.out.far g1 NR2.out)
  clear i1 g1
  rw [← HV6.out]
  go_upto_region 8 with ((with_reducible show wpList _ _ _ _ _ _); refine st_nonce (g := g3) (h := ⟨V1, V2, V3, V4, V5, hdZ.nonce⟩) rfl (.tmp 21) (.tmp 20) rfl rfl V6 rfl ⟨L1.out, L2.out, L3.out, L4.out, L5.out, hdZ_ok.2.2.2.2.2⟩ HF.out ?_; intro w12 q1 q2; have HF : Hid (HdBox w12 g3 ⟨V1, V2, V3, V4, V5, V6⟩) := Lib.hid q1; have HQ := Lib.hid q2; clear q1 q2; go_frame)
  have HRd := Lib.hid (HRd.out.grown HQ.out NR3.out.symm (fun _ => NM3.out))
  have HG := Lib.hid (gr_low HG.out HQ.out W3.out)
  have HP := Lib.hid (HP.out.far HQ.out N32.out)
  clear HQ
  have HQ0 : Hid (∀ cc, d6 = cc + 1 → h = hdZ ∧ bz = b6 ∧ dz = cc + 1) := fun cc hc => by
    have := HTt.out
    rw [if_neg (show ¬ d6 = 0 by omega)] at this
    simp only [Prod.mk.injEq] at this
    exact ⟨this.1.symm, this.2.1.symm, by rw [← this.2.2]; exact hc⟩
  have HQ1 : Hid (d6 = 0 → h = ⟨V1, V2, V3, V4, V5, V6⟩ ∧ bz = b6 ∧ dz = 0) := fun hc => by
    have := HTt.out
    rw [if_pos (show d6 = 0 by omega)] at this
    simp only [Prod.mk.injEq] at this
    exact ⟨this.1.symm, this.2.1.symm, by rw [← this.2.2]; exact hc⟩
  clear HTt
  cases d6 with
  | succ d =>
    obtain ⟨rfl, rfl, rfl⟩ := HQ0.out d rfl
    have EA := err_any E m bz (d + 1) r w12 HRd.out
    change Calls _ _ _ _ (fun e w' => e = .returned (.iface 176 (.pointer (some (E d)))) ∧ w12 = w') at EA
    have EA := Lib.hid EA
    go_wp2_with fail
    refine EA.out.mono ?_
    rintro e w' ⟨rfl, rfl⟩
    clear EA HQ0 HQ1
    go_wp2_with ((with_reducible show wpList _ _ _ _ _ _); refine wpList_store_row rfl 26 (.tmp 2) (.tmp 25) rfl g2 (hdL hdZ).toArray rfl (by kernel_rfl) 26 _ HP.out.row (by kernel_rfl) rfl (hdL_one hdZ) ?_; go_frame)
    refine bodyPost_ret (results_cell_row rfl _ _ g2 26 (hdL hdZ).toArray (0, 0) _ rfl (setRow_heap _ _ _ _ _ _ HP.out.row) Tryz.underlying26 rfl (by kernel_rfl)) rfl ?_
    have hq := setRow_grown (w := w12) (g := g2) (hdL hdZ).toArray
    exact ⟨rfl, HRd.out.grown hq NR2.out.symm (fun _ => NM2.out), gr_low HG.out hq W2.out⟩
  | zero =>
    obtain ⟨rfl, rfl, rfl⟩ := HQ1.out rfl
    have EA := err_any E m bz 0 r w12 HRd.out
    change Calls _ _ _ _ (fun e w' => e = .returned .nilIface ∧ w12 = w') at EA
    have EA := Lib.hid EA
    have OK : HdOk ⟨V1, V2, V3, V4, V5, V6⟩ := ⟨L1.out, L2.out, L3.out, L4.out, L5.out, L6.out⟩
    have SZ := Lib.hid (hdL_size OK)
    have ON := Lib.hid (hdL_one ⟨V1, V2, V3, V4, V5, V6⟩)
    clear OK
    obtain ⟨cs, hcs⟩ : ∃ cs, cs = (hdL ⟨V1, V2, V3, V4, V5, V6⟩).toArray := ⟨_, rfl⟩
    have FR := HF.out.row
    unfold HtPost
    rw [← hcs] at SZ ON FR ⊢
    have FR := Lib.hid FR
    have CS := Lib.hid hcs
    clear hcs HQ0 HQ1
    go_wp2_with fail
    refine EA.out.mono ?_
    rintro e w' ⟨rfl, rfl⟩
    clear EA
    go_wp2_with ((with_reducible show wpList _ _ _ _ _ _); first | (refine wpList_load_row rfl 26 (.tmp 3) rfl g3 rfl 26 cs (0, 0) _ FR.out Tryz.underlying26 rfl (by rw [SZ.out]; kernel_rfl) ?_; go_frame) | (refine wpList_store_row rfl 26 (.tmp 2) (.tmp 26) rfl g2 cs rfl rfl 26 _ HP.out.row (by rw [SZ.out]; kernel_rfl) (by rw [SZ.out]; rfl) ON.out ?_; go_frame))
    refine bodyPost_ret (results_cell_row rfl _ _ g2 26 cs (0, 0) _ rfl (setRow_heap _ _ _ _ _ _ HP.out.row) Tryz.underlying26 rfl (by rw [SZ.out]; kernel_rfl)) rfl ?_
    have hq := setRow_grown (w := w12) (g := g2) cs
    exact ⟨by rw [CS.out], HRd.out.grown hq NR2.out.symm (fun _ => NM2.out), gr_low HG.out hq W2.out⟩
end Go.Proofs.YtdamhoagiooicaaGreatDoor.Sha

/-
  Package tx takes a transaction from a Reader. Nothing that was there turns but the Reader. Conditions: the Reader stands as it should; the errors are there.
-/
namespace Go.Proofs.YtdamhoagiooicaaGreatDoor.Sha
open Go Go.RowKit
def TkPost (E : Nat → Addr) (m : Nat) (t : TTx) (b : List UInt8) (d r : Nat) (w : World) (e : Ending) (w' : World) : Prop :=
  ∃ v', e = .returned v' ∧ RdI E m w' r b d ∧ w.grownBy w' (some r) ∧ Sty (fun k => w.heap.size ≤ k) w' (fun W => TxAt W v' t)
def TkIns (E : Nat → Addr) (m r n1 : Nat) (bs2 : List UInt8) (d2 V1 base g2 g3 : Nat) (w : World) (vi : Value) (wr : World) : Prop :=
  ∃ (k : Nat) (l : List TIn) (ks : List Value) (v : Value) (b : List UInt8) (d : Nat), k ≤ n1 ∧ vi = .int .u64 k ∧ manyS inP k bs2 d2 = (l, b, d) ∧ RdI E m wr r b d ∧ w.grownBy wr (some r)
    ∧ wr.heap[g3]? = some (.cells [nV V1, v, .slice none 0 0, nV 0].toArray 66 (0, 0)) ∧ wr.heap[g2]? = some (.cells [nV 0, .slice none 0 0, .slice none 0 0, nV 0].toArray 66 (0, 0)) ∧ InsOwn base wr v l ks ∧ base ≤ wr.heap.size ∧ b.length ≤ 70368744177664
def TkOuts (E : Nat → Addr) (m r n2 : Nat) (bs4 : List UInt8) (d4 V1 base base2 g2 g3 : Nat) (iv : Value) (l1 : List TIn) (ks1 : List Value) (w : World) (vi : Value) (wr : World) : Prop :=
  ∃ (k : Nat) (l : List TOut) (v : Value) (b : List UInt8) (d : Nat), k ≤ n2 ∧ vi = .int .u64 k ∧ manyS outP k bs4 d4 = (l, b, d) ∧ RdI E m wr r b d ∧ w.grownBy wr (some r)
    ∧ wr.heap[g3]? = some (.cells [nV V1, iv, v, nV 0].toArray 66 (0, 0)) ∧ wr.heap[g2]? = some (.cells [nV 0, .slice none 0 0, .slice none 0 0, nV 0].toArray 66 (0, 0)) ∧ InsOwn base wr iv l1 ks1 ∧ OutsOwn base2 wr v l ∧ base ≤ wr.heap.size
theorem noTx_any (w : World) : TxAt w (.agg [nV 0, .slice none 0 0, .slice none 0 0, nV 0].toArray) noTx :=
  ⟨⟨by simp [noTx], by simp [noTx]⟩, .slice none 0 0, .slice none 0 0, rfl, ⟨none, 0, rfl, by simp [noTx], fun h => absurd h (by simp [noTx])⟩, ⟨none, 0, rfl, by simp [noTx], fun h => absurd h (by simp [noTx])⟩⟩
set_option maxHeartbeats 4000000 in
set_option maxRecDepth 100000 in
theorem take_tx (E : Nat → Addr) (m : Nat) (bs : List UInt8) (c r : Nat) (w : World) (hE : ErR w E r) (hr : RdI E m w r bs c) (hm : m < w.heap.size) (hl : bs.length ≤ 70368744177664) (t : TTx) (bz : List UInt8) (dz : Nat) (ht : takeTx bs c = (t, bz, dz)) :
    Calls Tryz.prog 76 #[.pointer (some ⟨r, 0, none⟩)] w (TkPost E m t bz dz r w) := by
  obtain ⟨x1, b1, d1, h1⟩ : ∃ x b d, takeL 4 bs c = (x, b, d) := ⟨_, _, _, rfl⟩
  obtain ⟨n1, b2, d2, h2⟩ : ∃ x b d, numL 50 b1 d1 = (x, b, d) := ⟨_, _, _, rfl⟩
  obtain ⟨l1, b3, d3, h3⟩ : ∃ x b d, manyS inP n1 b2 d2 = (x, b, d) := ⟨_, _, _, rfl⟩
  obtain ⟨n2, b4, d4, h4⟩ : ∃ x b d, numL 50 b3 d3 = (x, b, d) := ⟨_, _, _, rfl⟩
  obtain ⟨l2, b5, d5, h5⟩ : ∃ x b d, manyS outP n2 b4 d4 = (x, b, d) := ⟨_, _, _, rfl⟩
  obtain ⟨x6, b6, d6, h6⟩ : ∃ x b d, takeL 4 b5 d5 = (x, b, d) := ⟨_, _, _, rfl⟩
  rw [takeTx_S, txS_laid bs x1 b1 b2 b3 b4 b5 x6 b6 c d1 d2 d3 d4 d5 d6 n1 n2 l1 l2 h1 h2 h3 h4 h5 h6] at ht
  have HTt := Lib.hid ht
  have bn1 : n1 ≤ 50 := by have := numL_most 50 b1 d1; rw [h2] at this; exact this
  have bn2 : n2 ≤ 50 := by have := numL_most 50 b3 d3; rw [h4] at this; exact this
  have hb2 : b2.length ≤ 70368744177664 := by
    have q1 := less_take 4 bs c
    have q2 := less_num 50 b1 d1
    rw [h1] at q1
    rw [h2] at q2
    exact Nat.le_trans q2 (Nat.le_trans q1 hl)
  have BL2 := Lib.hid hb2
  have HE := Lib.hid hE
  have HR := Lib.hid hr
  have HM := Lib.hid hm
  have T1 := Lib.hid h1
  have T2 := Lib.hid h2
  have T3 := Lib.hid h3
  have T4 := Lib.hid h4
  have T5 := Lib.hid h5
  have T6 := Lib.hid h6
  obtain ⟨V1, hV1⟩ : ∃ N, N = leN x1 := ⟨_, rfl⟩
  obtain ⟨V6, hV6⟩ : ∃ N, N = leN x6 := ⟨_, rfl⟩
  have BV1 : Hid (V1 ≤ 4294967295) := by show _ ≤ _; have := le4 bs c; rw [leP_of h1] at this; rw [hV1]; exact this
  have BV6 : Hid (V6 ≤ 4294967295) := by show _ ≤ _; have := le4 b5 d5; rw [leP_of h6] at this; rw [hV6]; exact this
  have HV1 := Lib.hid hV1
  have HV6 := Lib.hid hV6
  clear hE hr hm h1 h2 h3 h4 h5 h6 ht hl hb2 hV1 hV6
  go_enter Tryz.func76, Tryz.ntmps76
  go_upto_region 2 with fail
  have hf3 := heap_alloc_new (w.alloc (.cells [nV 0, .slice none 0 0, .slice none 0 0, nV 0].toArray 66 (0, 0))) (.cells [nV 0, .slice none 0 0, .slice none 0 0, nV 0].toArray 66 (0, 0))
  have hf2 := row_below (heap_alloc_new w (.cells [nV 0, .slice none 0 0, .slice none 0 0, nV 0].toArray 66 (0, 0))) ((Below.refl _ _).alloc (Nat.le_refl _) (.cells [nV 0, .slice none 0 0, .slice none 0 0, nV 0].toArray 66 (0, 0)))
  have bb := ((Below.refl w.heap.size w).alloc (Nat.le_refl _) (.cells [nV 0, .slice none 0 0, .slice none 0 0, nV 0].toArray 66 (0, 0))).alloc (by simp) (.cells [nV 0, .slice none 0 0, .slice none 0 0, nV 0].toArray 66 (0, 0))
  have hsz : ((w.alloc (.cells [nV 0, .slice none 0 0, .slice none 0 0, nV 0].toArray 66 (0, 0))).alloc (.cells [nV 0, .slice none 0 0, .slice none 0 0, nV 0].toArray 66 (0, 0))).heap.size = w.heap.size + 2 := by simp
  rw [World.size_alloc] at hf3
  generalize hw0 : World.alloc _ _ = w0
  have e0 : (w.alloc (.cells [nV 0, .slice none 0 0, .slice none 0 0, nV 0].toArray 66 (0, 0))).alloc (.cells [nV 0, .slice none 0 0, .slice none 0 0, nV 0].toArray 66 (0, 0)) = w0 := hw0
  rw [e0] at hf3 hf2 bb hsz
  obtain ⟨g3, hg3⟩ : ∃ g3, g3 = w.heap.size + 1 := ⟨_, rfl⟩
  obtain ⟨g2, hg2⟩ : ∃ g2, g2 = w.heap.size := ⟨_, rfl⟩
  obtain ⟨base, hbase⟩ : ∃ base, base = w.heap.size + 2 := ⟨_, rfl⟩
  have hrl := HR.out.lt
  have hml := HM.out
  have NE3 : Hid (some r ≠ some g3) := fun e => by have := Option.some.inj e; omega
  have NE2 : Hid (some r ≠ some g2) := fun e => by have := Option.some.inj e; omega
  have NE23 : Hid (some g3 ≠ some g2) := fun e => by have := Option.some.inj e; omega
  have NE32 : Hid (some g2 ≠ some g3) := fun e => by have := Option.some.inj e; omega
  have NR3 : Hid (g3 ≠ r) := by show _ ≠ _; omega
  have NR2 : Hid (g2 ≠ r) := by show _ ≠ _; omega
  have NM3 : Hid (m ≠ g3) := by show _ ≠ _; omega
  have NM2 : Hid (m ≠ g2) := by show _ ≠ _; omega
  have RB : Hid (r < base) := by show _ < _; omega
  have MB : Hid (m < base) := by show _ < _; omega
  have GB3 : Hid (g3 < base) := by show _ < _; omega
  have GB2 : Hid (g2 < base) := by show _ < _; omega
  have WB : Hid (w.heap.size ≤ base) := by show _ ≤ _; omega
  have W3 : Hid (w.heap.size ≤ g3) := by show _ ≤ _; omega
  have W2 : Hid (w.heap.size ≤ g2) := by show _ ≤ _; omega
  rw [← hg2] at hf2
  rw [← hg3] at hf3
  rw [← hg3, ← hg2]
  have HF0 := Lib.hid hf3
  have HP0 := Lib.hid hf2
  have HG0 : Hid (w.grownBy w0 (some r)) := grownBy_of_below bb _
  have HR0 := Lib.hid (HR.out.below bb)
  have HB0 : Hid (base ≤ w0.heap.size) := by show _ ≤ _; omega
  clear hf3 hf2 bb hsz hw0 e0 hg3 hg2 hbase hrl hml
  go_wp2_with fail
  refine (four_is E m bs x1 b1 c d1 r w0 (HE.out.grown HG0.out) HR0.out T1.out).mono ?_
  rintro e w1 ⟨rfl, i1, g1⟩
  have HR1 := Lib.hid i1
  have HG1 := Lib.hid (grownBy_trans HG0.out g1)
  have HF1 := Lib.hid (row_far HF0.out g1 NE3.out)
  have HP1 := Lib.hid (row_far HP0.out g1 NE2.out)
  have HB1 : Hid (base ≤ w1.heap.size) := Nat.le_trans HB0.out g1.size
  clear i1 g1
  rw [← HV1.out]
  go_upto_region 3 with ((with_reducible show wpList _ _ _ _ _ _); refine wpList_store_part rfl 22 (.tmp 6) (.tmp 5) rfl g3 0 [] [nV 0] [.slice none 0 0, .slice none 0 0, nV 0] [nV V1] 66 (nV V1) rfl rfl rfl rfl rfl HF1.out (by kernel_rfl) (one_mem rfl) ?_; intro w2 q1 q2; have HF2 := Lib.hid q1; have HQ := Lib.hid q2; clear q1 q2; go_frame)
  have HR2 := Lib.hid (HR1.out.grown HQ.out NR3.out (fun _ => NM3.out))
  have HG2 := Lib.hid (gr_low HG1.out HQ.out W3.out)
  have HP2 := Lib.hid (row_far HP1.out HQ.out NE23.out)
  have HB2 : Hid (base ≤ w2.heap.size) := Nat.le_trans HB1.out HQ.out.size
  clear HQ HR1 HG1 HF1 HP1 HB1 HR0 HG0 HF0 HP0 HB0
  have NA : Hid (Calls Tryz.prog 75 #[.pointer (some ⟨r, 0, none⟩), .int .u64 50] w2 (NumPost E m n1 b2 d2 r w2)) := by
    have := num_any E m 50 b1 d1 r w2 (HE.out.grown HG2.out) HR2.out
    rw [T2.out] at this
    exact this
  go_wp2_with fail
  refine NA.out.mono ?_
  rintro e w3 ⟨rfl, i1, g1⟩
  have HR3 := Lib.hid i1
  have HG3 := Lib.hid (grownBy_trans HG2.out g1)
  have HF3 := Lib.hid (row_far HF2.out g1 NE3.out)
  have HP3 := Lib.hid (row_far HP2.out g1 NE2.out)
  have HB3 : Hid (base ≤ w3.heap.size) := Nat.le_trans HB2.out g1.size
  clear i1 g1
  clear NA HR2 HG2 HF2 HP2 HB2
  obtain ⟨i0, hi, hz0, hz1, hz2⟩ := info_parts info_in
  go_wp2_with fail
  go_loopw [9] (fun vi wr => TkIns E m r n1 b2 d2 V1 base g2 g3 w vi wr) (fun i _ => n1 - (intOf i).toNat)
  case atStart => exact ⟨0, [], [], _, b2, d2, by omega, rfl, rfl, HR3.out, HG3.out, HF3.out, HP3.out, InsOwn.nil _ _, HB3.out, BL2.out⟩
  case round =>
    clear HR3 HG3 HF3 HP3 HB3
    obtain ⟨k, l, ks, v, b, d, hk, rfl, hms, hR, hG, hF, hP, hO, hB, hbl⟩ := hrel
    have HMS := Lib.hid hms
    have HR := Lib.hid hR
    have HG := Lib.hid hG
    have HF := Lib.hid hF
    have HP := Lib.hid hP
    have HO := Lib.hid hO
    have HB := Lib.hid hB
    have BL := Lib.hid hbl
    have LL : Hid (l.length ≤ 50) := by show _ ≤ _; have := manyS_length inP k b2 d2; rw [hms] at this; simp only at this; omega
    clear hms hR hG hF hP hO hB hbl
    by_cases hlt : k < n1
    · obtain ⟨x, b', d', hx⟩ : ∃ x b' d', inP b d = (x, b', d') := ⟨_, _, _, rfl⟩
      have XOK : Hid (InOk x) := by have := inP_ok b d; rw [hx] at this; exact this
      have HX := Lib.hid hx
      have q0 : (k : Int) < (n1 : Int) := by omega
      have wk : IntKind.u64.wrap ((k : Int) + 1) = (k : Int) + 1 := u64_stays (by omega)
      clear hx
      go_wp2_with fail
      refine wp_region_held_drew (S := (fun _ => True)) (by kernel_rfl) trivial (fun hHeld => ?_)
      have bb := Below.drew (Below.refl wr.heap.size wr)
      generalize hw4 : wr.drew = w4
      rw [hw4] at bb
      have HR4 := Lib.hid (HR.out.below bb)
      have HG4 := Lib.hid (grownBy_trans HG.out (grownBy_of_below bb _))
      have HF4 := Lib.hid (row_below HF.out bb)
      have HP4 := Lib.hid (row_below HP.out bb)
      have HO4 := Lib.hid (HO.out.keep bb)
      have HB4 : Hid (base ≤ w4.heap.size) := Nat.le_trans HB.out bb.size
      clear hw4 bb hHeld
      have hHeld : True := trivial
      refine held_take (i := 0) (v := (.pointer (some ⟨g3, 1, none⟩))) rfl (by kernel_rfl) (by kernel_rfl) (by kernel_rfl) (fun _ _ _ h => h) (Or.inl ⟨by rfl, fun w' _ => by kernel_rfl⟩) hHeld ?_
      go_frame
      refine held_take (i := 2) (v := (.pointer (some ⟨r, 0, none⟩))) rfl (by kernel_rfl) (by kernel_rfl) (by kernel_rfl) (fun _ _ _ h => h) (Or.inl ⟨by rfl, fun w' _ => by kernel_rfl⟩) hHeld ?_
      go_frame
      refine wpAnyH_ready (rs := [1, 3]) (by kernel_rfl) (by simp) (held_cons rfl (fun K hK => ?_) (held_cons rfl (fun K hK => ?_) AllReadyH.nil))
      · rw [if_pos (by rfl)]
        refine wp_load_cell 63 (.tmp 11) rfl g3 1 rfl v _ (by rw [cell_of_row _ _ _ _ _ _ HF4.out]; rfl) Tryz.underlying63 rfl ?_
        go_frame
        refine hK.out _ _ trivial (fun hHeld => ?_)
        clear hK K
        refine wpAnyH_ready (rs := [3]) (by kernel_rfl) (by simp) (held_cons rfl (fun K hK => ?_) AllReadyH.nil)
        go_simp
        refine (takeIn_is E m b d r w4 (HE.out.grown HG4.out) HR4.out (Nat.lt_of_lt_of_le HM.out HG4.out.size) BL.out x b' d' HX.out).mono ?_
        rintro e w5 ⟨sx, cx, rfl, hk, hof, i1, g1⟩
        have KW := Lib.hid hk
        have KO := Lib.hid (fun q (hq : v.ownBlock = some q) => hof q ((HO4.out.2.1.lt q hq).2))
        have KB := Lib.hid (fun q (hq : q < base) => hof q (Nat.lt_of_lt_of_le hq HB4.out))
        have LX : Hid ((inL x (.slice sx x.key.length cx)).length = 35) := inL_length x _ XOK.out.1
        have HR5 := Lib.hid i1
        have HG5 := Lib.hid (grownBy_trans HG4.out g1)
        have HF5 := Lib.hid (row_far HF4.out g1 NE3.out)
        have HP5 := Lib.hid (row_far HP4.out g1 NE2.out)
        have HO5 := Lib.hid (HO4.out.other g1 RB.out)
        have HB5 : Hid (base ≤ w5.heap.size) := Nat.le_trans HB4.out g1.size
        clear i1 g1 hk hof
        go_wp2_with fail
        refine hK.out _ _ trivial (fun hHeld => ?_)
        clear hK K
        refine wpAnyH_ready (rs := [4]) (by kernel_rfl) (by simp) (held_cons rfl (fun K hK => ?_) AllReadyH.nil)
        rw [if_pos (by rfl)]
        refine wp_slice_one 63 70 (.tmp 14) rfl (inL x (.slice sx x.key.length cx)) rfl Tryz.underlying63 i0 _ hi hz0 (by rw [hz1, LX.out]) (by rw [LX.out]; omega) (by rw [LX.out]; omega) ?_
        go_frame
        have nf := heap_alloc_new w5 (.cells (inL x (.slice sx x.key.length cx)).toArray 70 (0, 0))
        have bb := (Below.refl w5.heap.size w5).alloc (Nat.le_refl _) (.cells (inL x (.slice sx x.key.length cx)).toArray 70 (0, 0))
        obtain ⟨gn, hgn⟩ : ∃ gn, gn = w5.heap.size := ⟨_, rfl⟩
        generalize hw6 : World.alloc _ _ = w6
        have e6 : w5.alloc (.cells (inL x (.slice sx x.key.length cx)).toArray 70 (0, 0)) = w6 := hw6
        rw [e6] at nf bb
        rw [← hgn] at nf ⊢
        have NF := Lib.hid nf
        have KW := Lib.hid (KW.out.below bb)
        have HR6 := Lib.hid (HR5.out.below bb)
        have HG6 := Lib.hid (grownBy_trans HG5.out (grownBy_of_below bb _))
        have HF6 := Lib.hid (row_below HF5.out bb)
        have HP6 := Lib.hid (row_below HP5.out bb)
        have HO6 := Lib.hid (HO5.out.keep bb)
        have HB6 : Hid (base ≤ w6.heap.size) := Nat.le_trans HB5.out bb.size
        clear nf bb hw6 e6 hgn
        refine hK.out _ _ trivial (fun hHeld => ?_)
        clear hK K
        refine wpAnyH_ready (rs := [5]) (by kernel_rfl) (by simp) (held_cons rfl (fun K hK => ?_) AllReadyH.nil)
        rw [if_pos (by rfl)]
        refine wp_append_row w6 (.tmp 12) (.tmp 15) 63 rfl base 70 i0 (.agg (List.replicate 32 (bV 0) ++ [nV 0, .slice none 0 0, nV 0]).toArray) 35 72 Tryz.underlying63 hi hz0 hz1 hz2 (by kernel_rfl) (by decide) v l.length (insL l ks) rfl HO6.out.2.1 ⟨gn, 0, none⟩ 1 1 (inL x (.slice sx x.key.length cx)) rfl (by rw [LX.out]) (fun j u hj => by rw [Addr.add_mid]; exact range_of_box NF.out j u hj) (in_mem_one x _ rfl) (by have := LL.out; unfold maxLen; omega) (by have := LL.out; omega) HB6.out ?_
        intro v7 w7 ao ag at'
        have VO := Lib.hid (own_one ao)
        have HO7 := Lib.hid (HO6.out.push XOK.out KW.out KB.out (fun sp n cap hv hn hq => KO.out sp.block hq sp n cap hv hn rfl) ao ag at')
        have hq : ∀ q, v.ownBlock = some q → base ≤ q := fun q hq => (HO6.out.2.1.lt q hq).1
        have HG7 := Lib.hid (gr_own HG6.out ag hq WB.out)
        have HF7 := Lib.hid (row_own HF6.out ag hq GB3.out)
        have HP7 := Lib.hid (row_own HP6.out ag hq GB2.out)
        have HR7 := Lib.hid (rd_own HR6.out ag hq RB.out MB.out)
        have HB7 : Hid (base ≤ w7.heap.size) := Nat.le_trans HB6.out ag.size

        clear ao ag at' hq
        go_frame
        refine hK.out _ _ trivial (fun hHeld => ?_)
        clear hK K
        refine held_take (i := 6) (v := (.pointer (some ⟨g3, 1, none⟩))) rfl (by kernel_rfl) (by kernel_rfl) (by kernel_rfl) (fun _ _ _ h => h) (Or.inl ⟨by rfl, fun w' _ => by kernel_rfl⟩) hHeld ?_
        go_frame
        refine wpAnyH_ready (rs := [7]) (by kernel_rfl) (by simp) (held_cons rfl (fun K hK => ?_) AllReadyH.nil)
        rw [if_pos (by rfl)]
        refine wp_store_part 63 (.tmp 17) (.tmp 16) rfl g3 1 [nV V1] [v] [.slice none 0 0, nV 0] [v7] 66 v7 rfl rfl (cells_one VO.out) rfl rfl HF7.out (by kernel_rfl) (one_mem VO.out) ?_
        intro w8 q1 q2
        have HF8 := Lib.hid q1
        have HG8 := Lib.hid (gr_low HG7.out q2 W3.out)
        have HP8 := Lib.hid (row_far HP7.out q2 NE23.out)
        have HR8 := Lib.hid (HR7.out.grown q2 NR3.out (fun _ => NM3.out))
        have HO8 := Lib.hid (HO7.out.other q2 GB3.out)
        have HB8 : Hid (base ≤ w8.heap.size) := Nat.le_trans HB7.out q2.size
        clear q1 q2
        go_frame
        refine hK.out _ _ trivial (fun hHeld => ?_)
        clear hK K
        refine wpAnyH_done (by kernel_rfl) ?_ _
        clear hHeld
        go_wp2_with fail
        go_roundw
        case rel =>
          exact ⟨k + 1, l ++ [x], ks ++ [.slice sx x.key.length cx], v7, b', d', by omega, by go_num, by rw [manyS, HMS.out, HX.out], HR8.out, HG8.out, HF8.out, HP8.out, HO8.out, HB8.out, Nat.le_trans (by have := less_in b d; rw [HX.out] at this; exact this) BL.out⟩
        case measure => simp [intOf]; omega
      · go_simp
        refine (takeIn_is E m b d r w4 (HE.out.grown HG4.out) HR4.out (Nat.lt_of_lt_of_le HM.out HG4.out.size) BL.out x b' d' HX.out).mono ?_
        rintro e w5 ⟨sx, cx, rfl, hk, hof, i1, g1⟩
        have KW := Lib.hid hk
        have KO := Lib.hid (fun q (hq : v.ownBlock = some q) => hof q ((HO4.out.2.1.lt q hq).2))
        have KB := Lib.hid (fun q (hq : q < base) => hof q (Nat.lt_of_lt_of_le hq HB4.out))
        have LX : Hid ((inL x (.slice sx x.key.length cx)).length = 35) := inL_length x _ XOK.out.1
        have HR5 := Lib.hid i1
        have HG5 := Lib.hid (grownBy_trans HG4.out g1)
        have HF5 := Lib.hid (row_far HF4.out g1 NE3.out)
        have HP5 := Lib.hid (row_far HP4.out g1 NE2.out)
        have HO5 := Lib.hid (HO4.out.other g1 RB.out)
        have HB5 : Hid (base ≤ w5.heap.size) := Nat.le_trans HB4.out g1.size
        clear i1 g1 hk hof
        go_wp2_with fail
        refine hK.out _ _ trivial (fun hHeld => ?_)
        clear hK K
        refine wpAnyH_ready (rs := [1, 4]) (by kernel_rfl) (by simp) (held_cons rfl (fun K hK => ?_) (held_cons rfl (fun K hK => ?_) AllReadyH.nil))
        · rw [if_pos (by rfl)]
          refine wp_load_cell 63 (.tmp 11) rfl g3 1 rfl v _ (by rw [cell_of_row _ _ _ _ _ _ HF5.out]; rfl) Tryz.underlying63 rfl ?_
          go_frame
          refine hK.out _ _ trivial (fun hHeld => ?_)
          clear hK K
          refine wpAnyH_ready (rs := [4]) (by kernel_rfl) (by simp) (held_cons rfl (fun K hK => ?_) AllReadyH.nil)
          rw [if_pos (by rfl)]
          refine wp_slice_one 63 70 (.tmp 14) rfl (inL x (.slice sx x.key.length cx)) rfl Tryz.underlying63 i0 _ hi hz0 (by rw [hz1, LX.out]) (by rw [LX.out]; omega) (by rw [LX.out]; omega) ?_
          go_frame
          have nf := heap_alloc_new w5 (.cells (inL x (.slice sx x.key.length cx)).toArray 70 (0, 0))
          have bb := (Below.refl w5.heap.size w5).alloc (Nat.le_refl _) (.cells (inL x (.slice sx x.key.length cx)).toArray 70 (0, 0))
          obtain ⟨gn, hgn⟩ : ∃ gn, gn = w5.heap.size := ⟨_, rfl⟩
          generalize hw6 : World.alloc _ _ = w6
          have e6 : w5.alloc (.cells (inL x (.slice sx x.key.length cx)).toArray 70 (0, 0)) = w6 := hw6
          rw [e6] at nf bb
          rw [← hgn] at nf ⊢
          have NF := Lib.hid nf
          have KW := Lib.hid (KW.out.below bb)
          have HR6 := Lib.hid (HR5.out.below bb)
          have HG6 := Lib.hid (grownBy_trans HG5.out (grownBy_of_below bb _))
          have HF6 := Lib.hid (row_below HF5.out bb)
          have HP6 := Lib.hid (row_below HP5.out bb)
          have HO6 := Lib.hid (HO5.out.keep bb)
          have HB6 : Hid (base ≤ w6.heap.size) := Nat.le_trans HB5.out bb.size
          clear nf bb hw6 e6 hgn
          refine hK.out _ _ trivial (fun hHeld => ?_)
          clear hK K
          refine wpAnyH_ready (rs := [5]) (by kernel_rfl) (by simp) (held_cons rfl (fun K hK => ?_) AllReadyH.nil)
          rw [if_pos (by rfl)]
          refine wp_append_row w6 (.tmp 12) (.tmp 15) 63 rfl base 70 i0 (.agg (List.replicate 32 (bV 0) ++ [nV 0, .slice none 0 0, nV 0]).toArray) 35 72 Tryz.underlying63 hi hz0 hz1 hz2 (by kernel_rfl) (by decide) v l.length (insL l ks) rfl HO6.out.2.1 ⟨gn, 0, none⟩ 1 1 (inL x (.slice sx x.key.length cx)) rfl (by rw [LX.out]) (fun j u hj => by rw [Addr.add_mid]; exact range_of_box NF.out j u hj) (in_mem_one x _ rfl) (by have := LL.out; unfold maxLen; omega) (by have := LL.out; omega) HB6.out ?_
          intro v7 w7 ao ag at'
          have VO := Lib.hid (own_one ao)
          have HO7 := Lib.hid (HO6.out.push XOK.out KW.out KB.out (fun sp n cap hv hn hq => KO.out sp.block hq sp n cap hv hn rfl) ao ag at')
          have hq : ∀ q, v.ownBlock = some q → base ≤ q := fun q hq => (HO6.out.2.1.lt q hq).1
          have HG7 := Lib.hid (gr_own HG6.out ag hq WB.out)
          have HF7 := Lib.hid (row_own HF6.out ag hq GB3.out)
          have HP7 := Lib.hid (row_own HP6.out ag hq GB2.out)
          have HR7 := Lib.hid (rd_own HR6.out ag hq RB.out MB.out)
          have HB7 : Hid (base ≤ w7.heap.size) := Nat.le_trans HB6.out ag.size

          clear ao ag at' hq
          go_frame
          refine hK.out _ _ trivial (fun hHeld => ?_)
          clear hK K
          refine held_take (i := 6) (v := (.pointer (some ⟨g3, 1, none⟩))) rfl (by kernel_rfl) (by kernel_rfl) (by kernel_rfl) (fun _ _ _ h => h) (Or.inl ⟨by rfl, fun w' _ => by kernel_rfl⟩) hHeld ?_
          go_frame
          refine wpAnyH_ready (rs := [7]) (by kernel_rfl) (by simp) (held_cons rfl (fun K hK => ?_) AllReadyH.nil)
          rw [if_pos (by rfl)]
          refine wp_store_part 63 (.tmp 17) (.tmp 16) rfl g3 1 [nV V1] [v] [.slice none 0 0, nV 0] [v7] 66 v7 rfl rfl (cells_one VO.out) rfl rfl HF7.out (by kernel_rfl) (one_mem VO.out) ?_
          intro w8 q1 q2
          have HF8 := Lib.hid q1
          have HG8 := Lib.hid (gr_low HG7.out q2 W3.out)
          have HP8 := Lib.hid (row_far HP7.out q2 NE23.out)
          have HR8 := Lib.hid (HR7.out.grown q2 NR3.out (fun _ => NM3.out))
          have HO8 := Lib.hid (HO7.out.other q2 GB3.out)
          have HB8 : Hid (base ≤ w8.heap.size) := Nat.le_trans HB7.out q2.size
          clear q1 q2
          go_frame
          refine hK.out _ _ trivial (fun hHeld => ?_)
          clear hK K
          refine wpAnyH_done (by kernel_rfl) ?_ _
          clear hHeld
          go_wp2_with fail
          go_roundw
          case rel =>
            exact ⟨k + 1, l ++ [x], ks ++ [.slice sx x.key.length cx], v7, b', d', by omega, by go_num, by rw [manyS, HMS.out, HX.out], HR8.out, HG8.out, HF8.out, HP8.out, HO8.out, HB8.out, Nat.le_trans (by have := less_in b d; rw [HX.out] at this; exact this) BL.out⟩
          case measure => simp [intOf]; omega
        · rw [if_pos (by rfl)]
          refine wp_slice_one 63 70 (.tmp 14) rfl (inL x (.slice sx x.key.length cx)) rfl Tryz.underlying63 i0 _ hi hz0 (by rw [hz1, LX.out]) (by rw [LX.out]; omega) (by rw [LX.out]; omega) ?_
          go_frame
          have nf := heap_alloc_new w5 (.cells (inL x (.slice sx x.key.length cx)).toArray 70 (0, 0))
          have bb := (Below.refl w5.heap.size w5).alloc (Nat.le_refl _) (.cells (inL x (.slice sx x.key.length cx)).toArray 70 (0, 0))
          obtain ⟨gn, hgn⟩ : ∃ gn, gn = w5.heap.size := ⟨_, rfl⟩
          generalize hw6 : World.alloc _ _ = w6
          have e6 : w5.alloc (.cells (inL x (.slice sx x.key.length cx)).toArray 70 (0, 0)) = w6 := hw6
          rw [e6] at nf bb
          rw [← hgn] at nf ⊢
          have NF := Lib.hid nf
          have KW := Lib.hid (KW.out.below bb)
          have HR6 := Lib.hid (HR5.out.below bb)
          have HG6 := Lib.hid (grownBy_trans HG5.out (grownBy_of_below bb _))
          have HF6 := Lib.hid (row_below HF5.out bb)
          have HP6 := Lib.hid (row_below HP5.out bb)
          have HO6 := Lib.hid (HO5.out.keep bb)
          have HB6 : Hid (base ≤ w6.heap.size) := Nat.le_trans HB5.out bb.size
          clear nf bb hw6 e6 hgn
          refine hK.out _ _ trivial (fun hHeld => ?_)
          clear hK K
          refine wpAnyH_ready (rs := [1]) (by kernel_rfl) (by simp) (held_cons rfl (fun K hK => ?_) AllReadyH.nil)
          rw [if_pos (by rfl)]
          refine wp_load_cell 63 (.tmp 11) rfl g3 1 rfl v _ (by rw [cell_of_row _ _ _ _ _ _ HF6.out]; rfl) Tryz.underlying63 rfl ?_
          go_frame
          refine hK.out _ _ trivial (fun hHeld => ?_)
          clear hK K
          refine wpAnyH_ready (rs := [5]) (by kernel_rfl) (by simp) (held_cons rfl (fun K hK => ?_) AllReadyH.nil)
          rw [if_pos (by rfl)]
          refine wp_append_row w6 (.tmp 12) (.tmp 15) 63 rfl base 70 i0 (.agg (List.replicate 32 (bV 0) ++ [nV 0, .slice none 0 0, nV 0]).toArray) 35 72 Tryz.underlying63 hi hz0 hz1 hz2 (by kernel_rfl) (by decide) v l.length (insL l ks) rfl HO6.out.2.1 ⟨gn, 0, none⟩ 1 1 (inL x (.slice sx x.key.length cx)) rfl (by rw [LX.out]) (fun j u hj => by rw [Addr.add_mid]; exact range_of_box NF.out j u hj) (in_mem_one x _ rfl) (by have := LL.out; unfold maxLen; omega) (by have := LL.out; omega) HB6.out ?_
          intro v7 w7 ao ag at'
          have VO := Lib.hid (own_one ao)
          have HO7 := Lib.hid (HO6.out.push XOK.out KW.out KB.out (fun sp n cap hv hn hq => KO.out sp.block hq sp n cap hv hn rfl) ao ag at')
          have hq : ∀ q, v.ownBlock = some q → base ≤ q := fun q hq => (HO6.out.2.1.lt q hq).1
          have HG7 := Lib.hid (gr_own HG6.out ag hq WB.out)
          have HF7 := Lib.hid (row_own HF6.out ag hq GB3.out)
          have HP7 := Lib.hid (row_own HP6.out ag hq GB2.out)
          have HR7 := Lib.hid (rd_own HR6.out ag hq RB.out MB.out)
          have HB7 : Hid (base ≤ w7.heap.size) := Nat.le_trans HB6.out ag.size

          clear ao ag at' hq
          go_frame
          refine hK.out _ _ trivial (fun hHeld => ?_)
          clear hK K
          refine held_take (i := 6) (v := (.pointer (some ⟨g3, 1, none⟩))) rfl (by kernel_rfl) (by kernel_rfl) (by kernel_rfl) (fun _ _ _ h => h) (Or.inl ⟨by rfl, fun w' _ => by kernel_rfl⟩) hHeld ?_
          go_frame
          refine wpAnyH_ready (rs := [7]) (by kernel_rfl) (by simp) (held_cons rfl (fun K hK => ?_) AllReadyH.nil)
          rw [if_pos (by rfl)]
          refine wp_store_part 63 (.tmp 17) (.tmp 16) rfl g3 1 [nV V1] [v] [.slice none 0 0, nV 0] [v7] 66 v7 rfl rfl (cells_one VO.out) rfl rfl HF7.out (by kernel_rfl) (one_mem VO.out) ?_
          intro w8 q1 q2
          have HF8 := Lib.hid q1
          have HG8 := Lib.hid (gr_low HG7.out q2 W3.out)
          have HP8 := Lib.hid (row_far HP7.out q2 NE23.out)
          have HR8 := Lib.hid (HR7.out.grown q2 NR3.out (fun _ => NM3.out))
          have HO8 := Lib.hid (HO7.out.other q2 GB3.out)
          have HB8 : Hid (base ≤ w8.heap.size) := Nat.le_trans HB7.out q2.size
          clear q1 q2
          go_frame
          refine hK.out _ _ trivial (fun hHeld => ?_)
          clear hK K
          refine wpAnyH_done (by kernel_rfl) ?_ _
          clear hHeld
          go_wp2_with fail
          go_roundw
          case rel =>
            exact ⟨k + 1, l ++ [x], ks ++ [.slice sx x.key.length cx], v7, b', d', by omega, by go_num, by rw [manyS, HMS.out, HX.out], HR8.out, HG8.out, HF8.out, HP8.out, HO8.out, HB8.out, Nat.le_trans (by have := less_in b d; rw [HX.out] at this; exact this) BL.out⟩
          case measure => simp [intOf]; omega
    · have hkn : k = n1 := by omega
      have hge : ¬ (k : Int) < (n1 : Int) := by omega
      have hms := HMS.out
      rw [hkn, T3.out] at hms
      obtain ⟨rfl, rfl, rfl⟩ : l1 = l ∧ b3 = b ∧ d3 = d := by simpa using hms
      have O1 := Lib.hid (own_one HO.out.2.1)
      clear hms hkn HMS hi hz0 hz1 hz2 i0
      have NA : Hid (Calls Tryz.prog 75 #[.pointer (some ⟨r, 0, none⟩), .int .u64 50] wr (NumPost E m n2 b4 d4 r wr)) := by
        have := num_any E m 50 b3 d3 r wr (HE.out.grown HG.out) HR.out
        rw [T4.out] at this
        exact this
      go_wp2_with fail
      refine NA.out.mono ?_
      rintro e w4 ⟨rfl, i1, g1⟩
      have HR4 := Lib.hid i1
      have HG4 := Lib.hid (grownBy_trans HG.out g1)
      have HF4 := Lib.hid (row_far HF.out g1 NE3.out)
      have HP4 := Lib.hid (row_far HP.out g1 NE2.out)
      have HB4 : Hid (base ≤ w4.heap.size) := Nat.le_trans HB.out g1.size
      have HO4 := Lib.hid (HO.out.other g1 RB.out)
      clear i1 g1
      clear NA HR HG HF HP HB HO
      obtain ⟨base2, hb2⟩ : ∃ base2, base2 = w4.heap.size := ⟨_, rfl⟩
      have IL : Hid (InsLow base2 v ks) := by rw [hb2]; exact HO4.out.low
      have BB : Hid (base ≤ base2) := by rw [hb2]; exact HB4.out
      have B2S : Hid (base2 ≤ w4.heap.size) := by rw [hb2]; exact Nat.le_refl _
      have GB32 : Hid (g3 < base2) := Nat.lt_of_lt_of_le GB3.out BB.out
      have GB22 : Hid (g2 < base2) := Nat.lt_of_lt_of_le GB2.out BB.out
      have RB2 : Hid (r < base2) := Nat.lt_of_lt_of_le RB.out BB.out
      obtain ⟨iv, hiv⟩ : ∃ iv, iv = v := ⟨_, rfl⟩
      rw [← hiv] at HF4 HO4 IL O1
      clear hb2 hlt hge hk hiv
      obtain ⟨i0, hi, hz0, hz1, hz2⟩ := info_parts info_out
      go_wp2_with fail
      go_loopw [21] (fun vi wr => TkOuts E m r n2 b4 d4 V1 base base2 g2 g3 iv l1 ks w vi wr ∧ base2 ≤ wr.heap.size) (fun i _ => n2 - (intOf i).toNat)
      case atStart => exact ⟨⟨0, [], _, b4, d4, by omega, rfl, rfl, HR4.out, HG4.out, HF4.out, HP4.out, HO4.out, OutsOwn.nil _ _, HB4.out⟩, B2S.out⟩
      case round =>
        clear HR4 HG4 HF4 HP4 HO4 HB4 B2S
        obtain ⟨⟨k, l, v, b, d, hk, rfl, hms, hR, hG, hF, hP, hI, hO, hB⟩, hB2⟩ := hrel
        have HMS := Lib.hid hms
        have HR := Lib.hid hR
        have HG := Lib.hid hG
        have HF := Lib.hid hF
        have HP := Lib.hid hP
        have HI := Lib.hid hI
        have HO := Lib.hid hO
        have HB := Lib.hid hB
        have HC := Lib.hid hB2
        have LL : Hid (l.length ≤ 50) := by show _ ≤ _; have := manyS_length outP k b4 d4; rw [hms] at this; simp only at this; omega
        clear hms hR hG hF hP hI hO hB hB2
        by_cases hlt : k < n2
        · obtain ⟨y, b', d', hx⟩ : ∃ x b' d', outP b d = (x, b', d') := ⟨_, _, _, rfl⟩
          have XOK : Hid (OutOk y) := by have := outP_ok b d; rw [hx] at this; exact this
          have HX := Lib.hid hx
          have q0 : (k : Int) < (n2 : Int) := by omega
          have wk : IntKind.u64.wrap ((k : Int) + 1) = (k : Int) + 1 := u64_stays (by omega)
          clear hx
          go_wp2_with fail
          refine wp_region_held_drew (S := (fun _ => True)) (by kernel_rfl) trivial (fun hHeld => ?_)
          have bb := Below.drew (Below.refl wr.heap.size wr)
          generalize hw4 : wr.drew = w4
          rw [hw4] at bb
          have HR4 := Lib.hid (HR.out.below bb)
          have HG4 := Lib.hid (grownBy_trans HG.out (grownBy_of_below bb _))
          have HF4 := Lib.hid (row_below HF.out bb)
          have HP4 := Lib.hid (row_below HP.out bb)
          have HO4 := Lib.hid (HO.out.keep bb)
          have HB4 : Hid (base ≤ w4.heap.size) := Nat.le_trans HB.out bb.size
          have HI4 := Lib.hid (HI.out.keep bb)
          have HC4 : Hid (base2 ≤ w4.heap.size) := Nat.le_trans HC.out bb.size
          clear hw4 bb hHeld
          have hHeld : True := trivial
          refine held_take (i := 0) (v := (.pointer (some ⟨g3, 2, none⟩))) rfl (by kernel_rfl) (by kernel_rfl) (by kernel_rfl) (fun _ _ _ h => h) (Or.inl ⟨by rfl, fun w' _ => by kernel_rfl⟩) hHeld ?_
          go_frame
          refine held_take (i := 2) (v := (.pointer (some ⟨r, 0, none⟩))) rfl (by kernel_rfl) (by kernel_rfl) (by kernel_rfl) (fun _ _ _ h => h) (Or.inl ⟨by rfl, fun w' _ => by kernel_rfl⟩) hHeld ?_
          go_frame
          refine wpAnyH_ready (rs := [1, 3]) (by kernel_rfl) (by simp) (held_cons rfl (fun K hK => ?_) (held_cons rfl (fun K hK => ?_) AllReadyH.nil))
          · rw [if_pos (by rfl)]
            refine wp_load_cell 64 (.tmp 23) rfl g3 2 rfl v _ (by rw [cell_of_row _ _ _ _ _ _ HF4.out]; rfl) Tryz.underlying64 rfl ?_
            go_frame
            refine hK.out _ _ trivial (fun hHeld => ?_)
            clear hK K
            refine wpAnyH_ready (rs := [3]) (by kernel_rfl) (by simp) (held_cons rfl (fun K hK => ?_) AllReadyH.nil)
            go_simp
            refine (takeOut_is E m b d r w4 (HE.out.grown HG4.out) HR4.out (Nat.lt_of_lt_of_le HM.out HG4.out.size) y b' d' HX.out).mono ?_
            rintro e w5 ⟨rfl, i1, g1⟩
            have LX : Hid ((outL y).length = 33) := outL_length y XOK.out.1
            have HR5 := Lib.hid i1
            have HG5 := Lib.hid (grownBy_trans HG4.out g1)
            have HF5 := Lib.hid (row_far HF4.out g1 NE3.out)
            have HP5 := Lib.hid (row_far HP4.out g1 NE2.out)
            have HO5 := Lib.hid (HO4.out.other g1 RB2.out)
            have HB5 : Hid (base ≤ w5.heap.size) := Nat.le_trans HB4.out g1.size
            have HI5 := Lib.hid (HI4.out.other g1 RB.out)
            have HC5 : Hid (base2 ≤ w5.heap.size) := Nat.le_trans HC4.out g1.size
            clear i1 g1
            go_wp2_with fail
            refine hK.out _ _ trivial (fun hHeld => ?_)
            clear hK K
            refine wpAnyH_ready (rs := [4]) (by kernel_rfl) (by simp) (held_cons rfl (fun K hK => ?_) AllReadyH.nil)
            rw [if_pos (by rfl)]
            refine wp_slice_one 64 111 (.tmp 26) rfl (outL y) rfl Tryz.underlying64 i0 _ hi hz0 (by rw [hz1, LX.out]) (by rw [LX.out]; omega) (by rw [LX.out]; omega) ?_
            go_frame
            have nf := heap_alloc_new w5 (.cells (outL y).toArray 111 (0, 0))
            have bb := (Below.refl w5.heap.size w5).alloc (Nat.le_refl _) (.cells (outL y).toArray 111 (0, 0))
            obtain ⟨gn, hgn⟩ : ∃ gn, gn = w5.heap.size := ⟨_, rfl⟩
            generalize hw6 : World.alloc _ _ = w6
            have e6 : w5.alloc (.cells (outL y).toArray 111 (0, 0)) = w6 := hw6
            rw [e6] at nf bb
            rw [← hgn] at nf ⊢
            have NF := Lib.hid nf
            have HR6 := Lib.hid (HR5.out.below bb)
            have HG6 := Lib.hid (grownBy_trans HG5.out (grownBy_of_below bb _))
            have HF6 := Lib.hid (row_below HF5.out bb)
            have HP6 := Lib.hid (row_below HP5.out bb)
            have HO6 := Lib.hid (HO5.out.keep bb)
            have HB6 : Hid (base ≤ w6.heap.size) := Nat.le_trans HB5.out bb.size
            have HI6 := Lib.hid (HI5.out.keep bb)
            have HC6 : Hid (base2 ≤ w6.heap.size) := Nat.le_trans HC5.out bb.size
            clear nf bb hw6 e6 hgn
            refine hK.out _ _ trivial (fun hHeld => ?_)
            clear hK K
            refine wpAnyH_ready (rs := [5]) (by kernel_rfl) (by simp) (held_cons rfl (fun K hK => ?_) AllReadyH.nil)
            rw [if_pos (by rfl)]
            refine wp_append_row w6 (.tmp 24) (.tmp 27) 64 rfl base2 111 i0 (.agg (uV 0 :: List.replicate 32 (bV 0)).toArray) 33 40 Tryz.underlying64 hi hz0 hz1 hz2 (by kernel_rfl) (by decide) v l.length (outsL l) rfl HO6.out.1 ⟨gn, 0, none⟩ 1 1 (outL y) rfl (by rw [LX.out]) (fun j u hj => by rw [Addr.add_mid]; exact range_of_box NF.out j u hj) (out_mem_one y) (by have := LL.out; unfold maxLen; omega) (by have := LL.out; omega) HC6.out ?_
            intro v7 w7 ao ag at'
            have VO := Lib.hid (own_one ao)
            have HO7 := Lib.hid (HO6.out.push XOK.out ao)
            have hq2 : ∀ q, v.ownBlock = some q → base2 ≤ q := fun q hq => (HO6.out.1.lt q hq).1
            have hq : ∀ q, v.ownBlock = some q → base ≤ q := fun q hq => Nat.le_trans BB.out (hq2 q hq)
            have HI7 := Lib.hid (HI6.out.grow ag (fun q hq => IL.out q (hq2 q hq)))
            have HG7 := Lib.hid (gr_own HG6.out ag hq WB.out)
            have HF7 := Lib.hid (row_own HF6.out ag hq GB3.out)
            have HP7 := Lib.hid (row_own HP6.out ag hq GB2.out)
            have HR7 := Lib.hid (rd_own HR6.out ag hq RB.out MB.out)
            have HB7 : Hid (base ≤ w7.heap.size) := Nat.le_trans HB6.out ag.size
            have HC7 : Hid (base2 ≤ w7.heap.size) := Nat.le_trans HC6.out ag.size
            clear ao ag at' hq hq2
            go_frame
            refine hK.out _ _ trivial (fun hHeld => ?_)
            clear hK K
            refine held_take (i := 6) (v := (.pointer (some ⟨g3, 2, none⟩))) rfl (by kernel_rfl) (by kernel_rfl) (by kernel_rfl) (fun _ _ _ h => h) (Or.inl ⟨by rfl, fun w' _ => by kernel_rfl⟩) hHeld ?_
            go_frame
            refine wpAnyH_ready (rs := [7]) (by kernel_rfl) (by simp) (held_cons rfl (fun K hK => ?_) AllReadyH.nil)
            rw [if_pos (by rfl)]
            refine wp_store_part 64 (.tmp 29) (.tmp 28) rfl g3 2 [nV V1, iv] [v] [nV 0] [v7] 66 v7 rfl rfl (cells_one VO.out) rfl rfl HF7.out (by kernel_rfl) (one_mem VO.out) ?_
            intro w8 q1 q2
            have HF8 := Lib.hid q1
            have HG8 := Lib.hid (gr_low HG7.out q2 W3.out)
            have HP8 := Lib.hid (row_far HP7.out q2 NE23.out)
            have HR8 := Lib.hid (HR7.out.grown q2 NR3.out (fun _ => NM3.out))
            have HO8 := Lib.hid (HO7.out.other q2 GB32.out)
            have HB8 : Hid (base ≤ w8.heap.size) := Nat.le_trans HB7.out q2.size
            have HI8 := Lib.hid (HI7.out.other q2 GB3.out)
            have HC8 : Hid (base2 ≤ w8.heap.size) := Nat.le_trans HC7.out q2.size
            clear q1 q2
            go_frame
            refine hK.out _ _ trivial (fun hHeld => ?_)
            clear hK K
            refine wpAnyH_done (by kernel_rfl) ?_ _
            clear hHeld
            go_wp2_with fail
            go_roundw
            case rel =>
              exact ⟨⟨k + 1, l ++ [y], v7, b', d', by omega, by go_num, by rw [manyS, HMS.out, HX.out], HR8.out, HG8.out, HF8.out, HP8.out, HI8.out, HO8.out, HB8.out⟩, HC8.out⟩
            case measure => simp [intOf]; omega
          · go_simp
            refine (takeOut_is E m b d r w4 (HE.out.grown HG4.out) HR4.out (Nat.lt_of_lt_of_le HM.out HG4.out.size) y b' d' HX.out).mono ?_
            rintro e w5 ⟨rfl, i1, g1⟩
            have LX : Hid ((outL y).length = 33) := outL_length y XOK.out.1
            have HR5 := Lib.hid i1
            have HG5 := Lib.hid (grownBy_trans HG4.out g1)
            have HF5 := Lib.hid (row_far HF4.out g1 NE3.out)
            have HP5 := Lib.hid (row_far HP4.out g1 NE2.out)
            have HO5 := Lib.hid (HO4.out.other g1 RB2.out)
            have HB5 : Hid (base ≤ w5.heap.size) := Nat.le_trans HB4.out g1.size
            have HI5 := Lib.hid (HI4.out.other g1 RB.out)
            have HC5 : Hid (base2 ≤ w5.heap.size) := Nat.le_trans HC4.out g1.size
            clear i1 g1
            go_wp2_with fail
            refine hK.out _ _ trivial (fun hHeld => ?_)
            clear hK K
            refine wpAnyH_ready (rs := [1, 4]) (by kernel_rfl) (by simp) (held_cons rfl (fun K hK => ?_) (held_cons rfl (fun K hK => ?_) AllReadyH.nil))
            · rw [if_pos (by rfl)]
              refine wp_load_cell 64 (.tmp 23) rfl g3 2 rfl v _ (by rw [cell_of_row _ _ _ _ _ _ HF5.out]; rfl) Tryz.underlying64 rfl ?_
              go_frame
              refine hK.out _ _ trivial (fun hHeld => ?_)
              clear hK K
              refine wpAnyH_ready (rs := [4]) (by kernel_rfl) (by simp) (held_cons rfl (fun K hK => ?_) AllReadyH.nil)
              rw [if_pos (by rfl)]
              refine wp_slice_one 64 111 (.tmp 26) rfl (outL y) rfl Tryz.underlying64 i0 _ hi hz0 (by rw [hz1, LX.out]) (by rw [LX.out]; omega) (by rw [LX.out]; omega) ?_
              go_frame
              have nf := heap_alloc_new w5 (.cells (outL y).toArray 111 (0, 0))
              have bb := (Below.refl w5.heap.size w5).alloc (Nat.le_refl _) (.cells (outL y).toArray 111 (0, 0))
              obtain ⟨gn, hgn⟩ : ∃ gn, gn = w5.heap.size := ⟨_, rfl⟩
              generalize hw6 : World.alloc _ _ = w6
              have e6 : w5.alloc (.cells (outL y).toArray 111 (0, 0)) = w6 := hw6
              rw [e6] at nf bb
              rw [← hgn] at nf ⊢
              have NF := Lib.hid nf
              have HR6 := Lib.hid (HR5.out.below bb)
              have HG6 := Lib.hid (grownBy_trans HG5.out (grownBy_of_below bb _))
              have HF6 := Lib.hid (row_below HF5.out bb)
              have HP6 := Lib.hid (row_below HP5.out bb)
              have HO6 := Lib.hid (HO5.out.keep bb)
              have HB6 : Hid (base ≤ w6.heap.size) := Nat.le_trans HB5.out bb.size
              have HI6 := Lib.hid (HI5.out.keep bb)
              have HC6 : Hid (base2 ≤ w6.heap.size) := Nat.le_trans HC5.out bb.size
              clear nf bb hw6 e6 hgn
              refine hK.out _ _ trivial (fun hHeld => ?_)
              clear hK K
              refine wpAnyH_ready (rs := [5]) (by kernel_rfl) (by simp) (held_cons rfl (fun K hK => ?_) AllReadyH.nil)
              rw [if_pos (by rfl)]
              refine wp_append_row w6 (.tmp 24) (.tmp 27) 64 rfl base2 111 i0 (.agg (uV 0 :: List.replicate 32 (bV 0)).toArray) 33 40 Tryz.underlying64 hi hz0 hz1 hz2 (by kernel_rfl) (by decide) v l.length (outsL l) rfl HO6.out.1 ⟨gn, 0, none⟩ 1 1 (outL y) rfl (by rw [LX.out]) (fun j u hj => by rw [Addr.add_mid]; exact range_of_box NF.out j u hj) (out_mem_one y) (by have := LL.out; unfold maxLen; omega) (by have := LL.out; omega) HC6.out ?_
              intro v7 w7 ao ag at'
              have VO := Lib.hid (own_one ao)
              have HO7 := Lib.hid (HO6.out.push XOK.out ao)
              have hq2 : ∀ q, v.ownBlock = some q → base2 ≤ q := fun q hq => (HO6.out.1.lt q hq).1
              have hq : ∀ q, v.ownBlock = some q → base ≤ q := fun q hq => Nat.le_trans BB.out (hq2 q hq)
              have HI7 := Lib.hid (HI6.out.grow ag (fun q hq => IL.out q (hq2 q hq)))
              have HG7 := Lib.hid (gr_own HG6.out ag hq WB.out)
              have HF7 := Lib.hid (row_own HF6.out ag hq GB3.out)
              have HP7 := Lib.hid (row_own HP6.out ag hq GB2.out)
              have HR7 := Lib.hid (rd_own HR6.out ag hq RB.out MB.out)
              have HB7 : Hid (base ≤ w7.heap.size) := Nat.le_trans HB6.out ag.size
              have HC7 : Hid (base2 ≤ w7.heap.size) := Nat.le_trans HC6.out ag.size
              clear ao ag at' hq hq2
              go_frame
              refine hK.out _ _ trivial (fun hHeld => ?_)
              clear hK K
              refine held_take (i := 6) (v := (.pointer (some ⟨g3, 2, none⟩))) rfl (by kernel_rfl) (by kernel_rfl) (by kernel_rfl) (fun _ _ _ h => h) (Or.inl ⟨by rfl, fun w' _ => by kernel_rfl⟩) hHeld ?_
              go_frame
              refine wpAnyH_ready (rs := [7]) (by kernel_rfl) (by simp) (held_cons rfl (fun K hK => ?_) AllReadyH.nil)
              rw [if_pos (by rfl)]
              refine wp_store_part 64 (.tmp 29) (.tmp 28) rfl g3 2 [nV V1, iv] [v] [nV 0] [v7] 66 v7 rfl rfl (cells_one VO.out) rfl rfl HF7.out (by kernel_rfl) (one_mem VO.out) ?_
              intro w8 q1 q2
              have HF8 := Lib.hid q1
              have HG8 := Lib.hid (gr_low HG7.out q2 W3.out)
              have HP8 := Lib.hid (row_far HP7.out q2 NE23.out)
              have HR8 := Lib.hid (HR7.out.grown q2 NR3.out (fun _ => NM3.out))
              have HO8 := Lib.hid (HO7.out.other q2 GB32.out)
              have HB8 : Hid (base ≤ w8.heap.size) := Nat.le_trans HB7.out q2.size
              have HI8 := Lib.hid (HI7.out.other q2 GB3.out)
              have HC8 : Hid (base2 ≤ w8.heap.size) := Nat.le_trans HC7.out q2.size
              clear q1 q2
              go_frame
              refine hK.out _ _ trivial (fun hHeld => ?_)
              clear hK K
              refine wpAnyH_done (by kernel_rfl) ?_ _
              clear hHeld
              go_wp2_with fail
              go_roundw
              case rel =>
                exact ⟨⟨k + 1, l ++ [y], v7, b', d', by omega, by go_num, by rw [manyS, HMS.out, HX.out], HR8.out, HG8.out, HF8.out, HP8.out, HI8.out, HO8.out, HB8.out⟩, HC8.out⟩
              case measure => simp [intOf]; omega
            · rw [if_pos (by rfl)]
              refine wp_slice_one 64 111 (.tmp 26) rfl (outL y) rfl Tryz.underlying64 i0 _ hi hz0 (by rw [hz1, LX.out]) (by rw [LX.out]; omega) (by rw [LX.out]; omega) ?_
              go_frame
              have nf := heap_alloc_new w5 (.cells (outL y).toArray 111 (0, 0))
              have bb := (Below.refl w5.heap.size w5).alloc (Nat.le_refl _) (.cells (outL y).toArray 111 (0, 0))
              obtain ⟨gn, hgn⟩ : ∃ gn, gn = w5.heap.size := ⟨_, rfl⟩
              generalize hw6 : World.alloc _ _ = w6
              have e6 : w5.alloc (.cells (outL y).toArray 111 (0, 0)) = w6 := hw6
              rw [e6] at nf bb
              rw [← hgn] at nf ⊢
              have NF := Lib.hid nf
              have HR6 := Lib.hid (HR5.out.below bb)
              have HG6 := Lib.hid (grownBy_trans HG5.out (grownBy_of_below bb _))
              have HF6 := Lib.hid (row_below HF5.out bb)
              have HP6 := Lib.hid (row_below HP5.out bb)
              have HO6 := Lib.hid (HO5.out.keep bb)
              have HB6 : Hid (base ≤ w6.heap.size) := Nat.le_trans HB5.out bb.size
              have HI6 := Lib.hid (HI5.out.keep bb)
              have HC6 : Hid (base2 ≤ w6.heap.size) := Nat.le_trans HC5.out bb.size
              clear nf bb hw6 e6 hgn
              refine hK.out _ _ trivial (fun hHeld => ?_)
              clear hK K
              refine wpAnyH_ready (rs := [1]) (by kernel_rfl) (by simp) (held_cons rfl (fun K hK => ?_) AllReadyH.nil)
              rw [if_pos (by rfl)]
              refine wp_load_cell 64 (.tmp 23) rfl g3 2 rfl v _ (by rw [cell_of_row _ _ _ _ _ _ HF6.out]; rfl) Tryz.underlying64 rfl ?_
              go_frame
              refine hK.out _ _ trivial (fun hHeld => ?_)
              clear hK K
              refine wpAnyH_ready (rs := [5]) (by kernel_rfl) (by simp) (held_cons rfl (fun K hK => ?_) AllReadyH.nil)
              rw [if_pos (by rfl)]
              refine wp_append_row w6 (.tmp 24) (.tmp 27) 64 rfl base2 111 i0 (.agg (uV 0 :: List.replicate 32 (bV 0)).toArray) 33 40 Tryz.underlying64 hi hz0 hz1 hz2 (by kernel_rfl) (by decide) v l.length (outsL l) rfl HO6.out.1 ⟨gn, 0, none⟩ 1 1 (outL y) rfl (by rw [LX.out]) (fun j u hj => by rw [Addr.add_mid]; exact range_of_box NF.out j u hj) (out_mem_one y) (by have := LL.out; unfold maxLen; omega) (by have := LL.out; omega) HC6.out ?_
              intro v7 w7 ao ag at'
              have VO := Lib.hid (own_one ao)
              have HO7 := Lib.hid (HO6.out.push XOK.out ao)
              have hq2 : ∀ q, v.ownBlock = some q → base2 ≤ q := fun q hq => (HO6.out.1.lt q hq).1
              have hq : ∀ q, v.ownBlock = some q → base ≤ q := fun q hq => Nat.le_trans BB.out (hq2 q hq)
              have HI7 := Lib.hid (HI6.out.grow ag (fun q hq => IL.out q (hq2 q hq)))
              have HG7 := Lib.hid (gr_own HG6.out ag hq WB.out)
              have HF7 := Lib.hid (row_own HF6.out ag hq GB3.out)
              have HP7 := Lib.hid (row_own HP6.out ag hq GB2.out)
              have HR7 := Lib.hid (rd_own HR6.out ag hq RB.out MB.out)
              have HB7 : Hid (base ≤ w7.heap.size) := Nat.le_trans HB6.out ag.size
              have HC7 : Hid (base2 ≤ w7.heap.size) := Nat.le_trans HC6.out ag.size
              clear ao ag at' hq hq2
              go_frame
              refine hK.out _ _ trivial (fun hHeld => ?_)
              clear hK K
              refine held_take (i := 6) (v := (.pointer (some ⟨g3, 2, none⟩))) rfl (by kernel_rfl) (by kernel_rfl) (by kernel_rfl) (fun _ _ _ h => h) (Or.inl ⟨by rfl, fun w' _ => by kernel_rfl⟩) hHeld ?_
              go_frame
              refine wpAnyH_ready (rs := [7]) (by kernel_rfl) (by simp) (held_cons rfl (fun K hK => ?_) AllReadyH.nil)
              rw [if_pos (by rfl)]
              refine wp_store_part 64 (.tmp 29) (.tmp 28) rfl g3 2 [nV V1, iv] [v] [nV 0] [v7] 66 v7 rfl rfl (cells_one VO.out) rfl rfl HF7.out (by kernel_rfl) (one_mem VO.out) ?_
              intro w8 q1 q2
              have HF8 := Lib.hid q1
              have HG8 := Lib.hid (gr_low HG7.out q2 W3.out)
              have HP8 := Lib.hid (row_far HP7.out q2 NE23.out)
              have HR8 := Lib.hid (HR7.out.grown q2 NR3.out (fun _ => NM3.out))
              have HO8 := Lib.hid (HO7.out.other q2 GB32.out)
              have HB8 : Hid (base ≤ w8.heap.size) := Nat.le_trans HB7.out q2.size
              have HI8 := Lib.hid (HI7.out.other q2 GB3.out)
              have HC8 : Hid (base2 ≤ w8.heap.size) := Nat.le_trans HC7.out q2.size
              clear q1 q2
              go_frame
              refine hK.out _ _ trivial (fun hHeld => ?_)
              clear hK K
              refine wpAnyH_done (by kernel_rfl) ?_ _
              clear hHeld
              go_wp2_with fail
              go_roundw
              case rel =>
                exact ⟨⟨k + 1, l ++ [y], v7, b', d', by omega, by go_num, by rw [manyS, HMS.out, HX.out], HR8.out, HG8.out, HF8.out, HP8.out, HI8.out, HO8.out, HB8.out⟩, HC8.out⟩
              case measure => simp [intOf]; omega
        · have hkn : k = n2 := by omega
          have hge : ¬ (k : Int) < (n2 : Int) := by omega
          have hms := HMS.out
          rw [hkn, T5.out] at hms
          obtain ⟨rfl, rfl, rfl⟩ : l2 = l ∧ b5 = b ∧ d5 = d := by simpa using hms
          have O2 := Lib.hid (own_one HO.out.1)
          clear hms hkn HMS hi hz0 hz1 hz2 i0
          go_wp2_with fail
          refine (four_is E m b5 x6 b6 d5 d6 r wr (HE.out.grown HG.out) HR.out T6.out).mono ?_
          rintro e w5 ⟨rfl, i1, g1⟩
          have HO5 := Lib.hid (HO.out.other g1 RB2.out)
          have HI5 := Lib.hid (HI.out.other g1 RB.out)
          have HR5 := Lib.hid i1
          have HG5 := Lib.hid (grownBy_trans HG.out g1)
          have HF5 := Lib.hid (row_far HF.out g1 NE3.out)
          have HP5 := Lib.hid (row_far HP.out g1 NE2.out)
          have HB5 : Hid (base ≤ w5.heap.size) := Nat.le_trans HB.out g1.size
          clear i1 g1
          rw [← HV6.out]
          go_upto_region 12 with ((with_reducible show wpList _ _ _ _ _ _); refine wpList_store_part rfl 22 (.tmp 33) (.tmp 32) rfl g3 3 [nV V1, iv, v] [nV 0] [] [nV V6] 66 (nV V6) rfl rfl rfl rfl rfl HF5.out (by kernel_rfl) (one_mem rfl) ?_; intro w6 q1 q2; have HF6 := Lib.hid q1; have HQ := Lib.hid q2; clear q1 q2; go_frame)
          have HR6 := Lib.hid (HR5.out.grown HQ.out NR3.out (fun _ => NM3.out))
          have HG6 := Lib.hid (gr_low HG5.out HQ.out W3.out)
          have HP6 := Lib.hid (row_far HP5.out HQ.out NE23.out)
          have HO6 := Lib.hid (HO5.out.other HQ.out GB32.out)
          have HI6 := Lib.hid (HI5.out.other HQ.out GB3.out)
          clear HQ HR HG HF HP HO HI HB HR5 HG5 HF5 HP5 HO5 HI5 HB5 hge hlt
          cases d6 with
          | succ d6 =>
            obtain ⟨rfl, rfl, rfl⟩ : noTx = t ∧ b6 = bz ∧ d6 + 1 = dz := by
              have := HTt.out
              rw [if_neg (by simp)] at this
              simpa using this
            have ER := err_any E m b6 (d6 + 1) r w6 HR6.out
            change Calls _ _ _ _ (fun e w' => e = .returned (.iface 176 (.pointer (some (E d6)))) ∧ w6 = w') at ER
            have ER := Lib.hid ER
            go_wp2_with fail
            refine ER.out.mono ?_
            rintro e w' ⟨rfl, rfl⟩
            go_wp2_with ((with_reducible show wpList _ _ _ _ _ _); first | (refine wpList_buildTo rfl 66 _ rfl _ rfl [nV 0, .slice none 0 0, .slice none 0 0, nV 0].toArray (by kernel_rfl) ?_; go_frame) | (refine wpList_store_row rfl 66 (.tmp 2) (.tmp 37) rfl g2 [nV 0, .slice none 0 0, .slice none 0 0, nV 0].toArray rfl rfl 66 _ HP6.out (by kernel_rfl) rfl (by kernel_rfl) ?_; go_frame))
            refine bodyPost_ret (results_cell_row rfl _ _ g2 66 [nV 0, .slice none 0 0, .slice none 0 0, nV 0].toArray (0, 0) _ rfl (setRow_heap _ _ _ _ _ _ HP6.out) Tryz.underlying66 rfl (by kernel_rfl)) rfl ?_
            have HQ : w6.grownBy (w6.setRow g2 [nV 0, .slice none 0 0, .slice none 0 0, nV 0].toArray) (some g2) := setRow_grown _
            exact ⟨_, rfl, HR6.out.grown HQ NR2.out (fun _ => NM2.out), gr_low HG6.out HQ W2.out, fun w'' _ => noTx_any w''⟩
          | zero =>
            obtain ⟨rfl, rfl, rfl⟩ : (⟨leN x1, l1, l2, leN x6⟩ : TTx) = t ∧ b6 = bz ∧ 0 = dz := by
              have := HTt.out
              rw [if_pos rfl] at this
              simpa using this
            have ER := err_any E m b6 0 r w6 HR6.out
            change Calls _ _ _ _ (fun e w' => e = .returned .nilIface ∧ w6 = w') at ER
            have ER := Lib.hid ER
            go_wp2_with fail
            refine ER.out.mono ?_
            rintro e w' ⟨rfl, rfl⟩
            have ONE : Hid ([nV V1, iv, v, nV V6].toArray.all (·.oneCell') = true) := by
              show _ = _
              have a := O1.out
              have b := O2.out
              have b : v.oneCell' = true := b
              rw [Array.all_eq_true_iff_forall_mem]
              intro u hu
              simp only [List.mem_toArray, List.mem_cons, List.not_mem_nil, or_false] at hu
              rcases hu with rfl | rfl | rfl | rfl
              · rfl
              · exact a
              · exact b
              · rfl
            have HF7 : Hid (w6.heap[g3]? = some (.cells [nV V1, iv, v, nV V6].toArray 66 (0, 0))) := HF6.out
            go_wp2_with ((with_reducible show wpList _ _ _ _ _ _); first | (refine wpList_load_row rfl 66 (.tmp 3) rfl g3 rfl 66 [nV V1, iv, v, nV V6].toArray (0, 0) _ HF7.out Tryz.underlying66 rfl (by kernel_rfl) ?_; go_frame) | (refine wpList_store_row rfl 66 (.tmp 2) (.tmp 38) rfl g2 [nV V1, iv, v, nV V6].toArray rfl rfl 66 _ HP6.out (by kernel_rfl) rfl ONE.out ?_; go_frame))
            refine bodyPost_ret (results_cell_row rfl _ _ g2 66 [nV V1, iv, v, nV V6].toArray (0, 0) _ rfl (setRow_heap _ _ _ _ _ _ HP6.out) Tryz.underlying66 rfl (by kernel_rfl)) rfl ?_
            have HQ : w6.grownBy (w6.setRow g2 [nV V1, iv, v, nV V6].toArray) (some g2) := setRow_grown _
            refine ⟨_, rfl, HR6.out.grown HQ NR2.out (fun _ => NM2.out), gr_low HG6.out HQ W2.out, fun w'' hw => ?_⟩
            have hi := ((HI6.out.other HQ GB2.out).kps hw (fun k hk => Nat.le_trans WB.out hk)).at
            have ho := ((HO6.out.other HQ GB22.out).kps hw (fun k hk => Nat.le_trans (Nat.le_trans WB.out BB.out) hk)).at
            have e1 := HV1.out
            have e6 := HV6.out
            have q1 := BV1.out
            have q6 := BV6.out
            subst e1 e6
            exact ⟨⟨q1, q6⟩, iv, v, rfl, hi, ho⟩
end Go.Proofs.YtdamhoagiooicaaGreatDoor.Sha
