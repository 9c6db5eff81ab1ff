/-
  The statement on numbers in more bytes than they need answers true. Conditions: the errors are there, each its own.
-/
import Derived.Test.YtdgejdecahdjkaaDoorCmpFirst
import Derived.Test.YtdgejdecahdjkaaDoorNumMath
namespace Go.Proofs.YtdgejdecahdjkaaDoor.Sha
open Go Go.RowKit

theorem few_a (most : Nat) (c : UInt8) (hc : c.toNat < 253) : numL most [253, c, 0] 0 = (0, [], 2) := by
  have e : leN [c, 0] = c.toNat := by simp [leN]
  have h := numL_mark most 253 2 [c, 0] [] rfl (by omega) rfl
  rw [e] at h
  have hl : lenN c.toNat = 1 := by unfold lenN; rw [if_pos hc]
  rw [hl, if_pos (by omega)] at h
  exact h
theorem few_b (most y : Nat) (hy : y < 65536) : numL most (254 :: leB y 4) 0 = (0, [], 2) := by
  have e : leN (leB y 4) = y := leN_leB_of (by omega)
  have h := numL_mark most 254 4 (leB y 4) [] rfl (by omega) (leB_length y 4)
  rw [e, List.append_nil] at h
  have hl : lenN y ≤ 3 := by unfold lenN; split <;> (try split) <;> omega
  rw [if_pos (by omega)] at h
  exact h
theorem few_c (most z : Nat) (hz : z < 4294967296) : numL most (255 :: leB z 8) 0 = (0, [], 2) := by
  have e : leN (leB z 8) = z := leN_leB_of (by omega)
  have h := numL_mark most 255 8 (leB z 8) [] rfl (by omega) (leB_length z 8)
  rw [e, List.append_nil] at h
  have hl : lenN z ≤ 5 := by unfold lenN; split <;> (try split) <;> (try split) <;> omega
  rw [if_pos (by omega)] at h
  exact h

set_option maxHeartbeats 2000000 in
set_option maxRecDepth 100000 in
theorem fewest_main (E : Nat → Addr) (n : Nat) (w : World) (hE : Errs w E) (hn : n < 18446744073709551616) :
    Calls Tryd.prog 4 #[.int .u64 n] w fun e w' => e = .returned (.bool true) ∧ Below w.heap.size w w' := by
  have HE := Lib.hid hE
  have HER := Lib.hid hE.er
  obtain ⟨c, hc⟩ : ∃ c, c = UInt8.ofNat (n % 253) := ⟨_, rfl⟩
  have hcn : c.toNat = n % 253 := by rw [hc, UInt8.toNat_ofNat']; omega
  have hc1 : (n : Int) % 253 = bv c := by unfold bv; omega
  have hc2 : (n : Int).tmod 253 = bv c := by rw [Int.tmod_eq_emod_of_nonneg (by omega)]; exact hc1
  have hcb := bv_bd c
  obtain ⟨hb0, hb1'⟩ := hcb
  have hc3 : bv c % 256 = bv c := by omega
  obtain ⟨y, hy⟩ : ∃ y, y = n % 65536 := ⟨_, rfl⟩
  obtain ⟨z, hz⟩ : ∃ z, z = n % 4294967296 := ⟨_, rfl⟩
  have hy2 : y ≤ 65535 := by omega
  have hz2 : z ≤ 4294967295 := by omega
  have my : bits .and .u64 (n : Int) 65535 = (y : Int) := by rw [hy]; exact mask_nat n 16 hn (by omega)
  have mz : bits .and .u64 (n : Int) 4294967295 = (z : Int) := by rw [hz]; exact mask_nat n 32 hn (by omega)
  have TA : Hid (numL 9223372036854775808 [253, c, 0] 0 = (0, [], 2)) := few_a _ c (by omega)
  have TB : Hid (numL 9223372036854775808 (254 :: leB y 4) 0 = (0, [], 2)) := few_b _ y (by omega)
  have TC : Hid (numL 9223372036854775808 (255 :: leB z 8) 0 = (0, [], 2)) := few_c _ z (by omega)
  have LB : Hid ((254 :: leB y 4).length = 5) := by show _ = _; rw [List.length_cons, leB_length]
  have LC : Hid ((255 :: leB z 8).length = 9) := by show _ = _; rw [List.length_cons, leB_length]
  clear hE hc hcn hy hz hn
  go_enter Tryd.func4, Tryd.ntmps4
  go_wp2_with fail
  refine (first2_any _).mono ?_
  rintro e w1 ⟨rfl, hb1⟩
  have HB1 := Lib.hid hb1
  clear hb1
  go_wp2_with fail
  have s := lit_src (w := w1) [253, c, 0] 5 (by simp)
  have b : Below w.heap.size w (w1.alloc (.cells #[.int .u8 253, .int .u8 (bv c), .int .u8 0] 5)) := HB1.out.alloc HB1.out.size _
  change SrcB (w1.alloc (.cells #[.int .u8 253, .int .u8 (bv c), .int .u8 0] 5)) (.slice (some ⟨w1.heap.size, 0, none⟩) 3 3) [253, c, 0] at s
  obtain ⟨wp, hp⟩ : ∃ wp, wp = w1.alloc (.cells #[.int .u8 253, .int .u8 (bv c), .int .u8 0] 5) := ⟨_, rfl⟩
  rw [← hp] at s b ⊢
  have S1 := Lib.hid s
  have B1 := Lib.hid b
  clear hp s b HB1
  refine (read_any E [253, c, 0] _ _ S1.out (by simp)).mono ?_
  rintro e w2 ⟨ma, ra, rfl, h2⟩
  have RA := Lib.hid (h2.rs B1.out)
  clear h2 S1 B1
  go_wp2_with fail
  have s := lit_src (w := w2) [254] 5 (by simp)
  have b : Below w2.heap.size w2 (w2.alloc (.cells #[.int .u8 254] 5)) := (Below.refl _ _).alloc (Nat.le_refl _) _
  change SrcB (w2.alloc (.cells #[.int .u8 254] 5)) (.slice (some ⟨w2.heap.size, 0, none⟩) 1 1) [254] at s
  obtain ⟨wp, hp⟩ : ∃ wp, wp = w2.alloc (.cells #[.int .u8 254] 5) := ⟨_, rfl⟩
  rw [← hp] at s b ⊢
  have S2 := Lib.hid s
  have RA2 := Lib.hid (RA.out.keep b)
  clear hp s b RA
  refine (four_any [254] _ 1 1 y _ S2.out (by omega) (by omega)).mono ?_
  rintro e w3 ⟨rfl, h3⟩
  have S3 := Lib.hid (src_own h3.1)
  have RA3 := Lib.hid (RA2.out.keep h3.2)
  clear h3 S2 RA2
  go_wp2_with fail
  refine (read_any E (254 :: leB y 4) _ _ S3.out (by rw [LB.out]; omega)).mono ?_
  rintro e w4 ⟨mb, rb, rfl, h4⟩
  have qab : ra < rb := Nat.lt_of_lt_of_le RA3.out.lt h4.2.2.1
  have qam : ra < mb := Nat.lt_of_lt_of_le RA3.out.lt (h4.2.2.2 (by simp))
  have RB4 := Lib.hid (h4.rs RA3.out.2.1)
  have RA4 := Lib.hid (RA3.out.keep h4.2.1)
  clear h4 S3 RA3
  go_wp2_with fail
  have s := lit_src (w := w4) [255] 5 (by simp)
  have b : Below w4.heap.size w4 (w4.alloc (.cells #[.int .u8 255] 5)) := (Below.refl _ _).alloc (Nat.le_refl _) _
  change SrcB (w4.alloc (.cells #[.int .u8 255] 5)) (.slice (some ⟨w4.heap.size, 0, none⟩) 1 1) [255] at s
  obtain ⟨wp, hp⟩ : ∃ wp, wp = w4.alloc (.cells #[.int .u8 255] 5) := ⟨_, rfl⟩
  rw [← hp] at s b ⊢
  have S4 := Lib.hid s
  have RA5 := Lib.hid (RA4.out.keep b)
  have RB5 := Lib.hid (RB4.out.keep b)
  clear hp s b RA4 RB4
  refine (eight_any [255] _ 1 1 z _ S4.out (by omega)).mono ?_
  rintro e w5 ⟨rfl, h5⟩
  have S5 := Lib.hid (src_own h5.1)
  have RA6 := Lib.hid (RA5.out.keep h5.2)
  have RB6 := Lib.hid (RB5.out.keep h5.2)
  clear h5 S4 RA5 RB5
  go_wp2_with fail
  refine (read_any E (255 :: leB z 8) _ _ S5.out (by rw [LC.out]; omega)).mono ?_
  rintro e w6 ⟨mc, rc, rfl, h6⟩
  have qac : ra < rc := Nat.lt_of_lt_of_le RA6.out.lt h6.2.2.1
  have qacm : ra < mc := Nat.lt_of_lt_of_le RA6.out.lt (h6.2.2.2 (by simp))
  have qbc : rb < rc := Nat.lt_of_lt_of_le RB6.out.lt h6.2.2.1
  have qbcm : rb < mc := Nat.lt_of_lt_of_le RB6.out.lt (h6.2.2.2 (by simp))
  have RC7 := Lib.hid (h6.rs RA6.out.2.1)
  have RA7 := Lib.hid (RA6.out.keep h6.2.1)
  have RB7 := Lib.hid (RB6.out.keep h6.2.1)
  clear h6 S5 RA6 RB6
  go_wp2_with fail
  refine (num_is 9223372036854775808 0 (RA7.out.er HER.out) RA7.out.1 TA.out).mono ?_
  rintro e w7 ⟨rfl, i, g⟩
  have RB8 := Lib.hid (RB7.out.other g (by omega) (fun _ => by omega) RA7.out.2.2)
  have RC8 := Lib.hid (RC7.out.other g (by omega) (fun _ => by omega) RA7.out.2.2)
  have RA8 := Lib.hid (RA7.out.step i g)
  clear i g RA7 RB7 RC7
  go_wp2_with fail
  refine (num_is 9223372036854775808 0 (RB8.out.er HER.out) RB8.out.1 TB.out).mono ?_
  rintro e w8 ⟨rfl, i, g⟩
  have RA9 := Lib.hid (RA8.out.other g (by omega) (fun h => absurd rfl h) RB8.out.2.2)
  have RC9 := Lib.hid (RC8.out.other g (by omega) (fun _ => by omega) RB8.out.2.2)
  have RB9 := Lib.hid (RB8.out.step i g)
  clear i g RA8 RB8 RC8
  go_wp2_with fail
  refine (num_is 9223372036854775808 0 (RC9.out.er HER.out) RC9.out.1 TC.out).mono ?_
  rintro e w9 ⟨rfl, i, g⟩
  have RAa := Lib.hid (RA9.out.other g (by omega) (fun h => absurd rfl h) RC9.out.2.2)
  have RBa := Lib.hid (RB9.out.other g (by omega) (fun h => absurd rfl h) RC9.out.2.2)
  have RCa := Lib.hid (RC9.out.step i g)
  clear i g RA9 RB9 RC9
  go_wp2_with fail
  refine (eight_none (by omega) (RAa.out.er HER.out) RAa.out.1).mono ?_
  rintro e wa ⟨rfl, i, g⟩
  have RBb := Lib.hid (RBa.out.other g (by omega) (fun h => absurd rfl h) RAa.out.2.2)
  have RCb := Lib.hid (RCa.out.other g (by omega) (fun h => absurd rfl h) RAa.out.2.2)
  have RAb := Lib.hid (RAa.out.step i g)
  clear i g RAa RBa RCa
  go_wp2_with fail
  refine (err_any E ma [] 2 ra _ RAb.out.1).mono ?_
  rintro e w' ⟨rfl, rfl⟩
  go_wp2_with fail
  refine (is_any E 2 102 true rfl _ (HE.out.below RAb.out.2.1) (by omega)).mono ?_
  rintro e wb ⟨rfl, hb⟩
  have RAc := Lib.hid (RAb.out.keep hb)
  have RBc := Lib.hid (RBb.out.keep hb)
  have RCc := Lib.hid (RCb.out.keep hb)
  clear hb RAb RBb RCb
  go_wp2_with fail
  refine (err_any E mb [] 2 rb _ RBc.out.1).mono ?_
  rintro e w' ⟨rfl, rfl⟩
  go_wp2_with fail
  refine (is_any E 2 102 true rfl _ (HE.out.below RBc.out.2.1) (by omega)).mono ?_
  rintro e wc ⟨rfl, hb⟩
  have RAd := Lib.hid (RAc.out.keep hb)
  have RCd := Lib.hid (RCc.out.keep hb)
  clear hb RAc RBc RCc
  go_wp2_with fail
  refine (err_any E mc [] 2 rc _ RCd.out.1).mono ?_
  rintro e w' ⟨rfl, rfl⟩
  go_wp2_with fail
  refine (is_any E 2 102 true rfl _ (HE.out.below RCd.out.2.1) (by omega)).mono ?_
  rintro e wd ⟨rfl, hb⟩
  have RAe := Lib.hid (RAd.out.keep hb)
  clear hb RAd RCd
  go_wp2_with fail
  refine (left_none RAe.out.1).mono ?_
  rintro e w' ⟨rfl, rfl⟩
  go_wp2_with fail
  go_ret
  exact ⟨rfl, RAe.out.2.1⟩
end Go.Proofs.YtdgejdecahdjkaaDoor.Sha
