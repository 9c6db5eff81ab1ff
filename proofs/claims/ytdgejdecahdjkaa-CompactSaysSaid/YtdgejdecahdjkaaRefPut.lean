/-
  The statements' own Put, Four and Eight write numbers in bytes behind a row that is theirs. Conditions: an own row that is short.
-/
import Derived.Test.YtdgejdecahdjkaaRefWire
namespace Go.Proofs.Ytdgejdecahdjkaa.Sha
open Go Go.RowKit

theorem lenN_cases (n : Nat) : (lenN n = 1 ∧ putL n = [UInt8.ofNat n]) ∨ (lenN n = 3 ∧ putL n = 253 :: leB n 2) ∨ (lenN n = 5 ∧ putL n = 254 :: leB n 4) ∨ (lenN n = 9 ∧ putL n = 255 :: leB n 8) := by
  unfold lenN putL
  by_cases h1 : n < 253
  · rw [if_pos h1, if_pos h1]; exact .inl ⟨rfl, rfl⟩
  by_cases h2 : n ≤ 65535
  · rw [if_neg h1, if_neg h1, if_pos h2, if_pos h2]; exact .inr (.inl ⟨rfl, rfl⟩)
  by_cases h3 : n ≤ 4294967295
  · rw [if_neg h1, if_neg h1, if_neg h2, if_neg h2, if_pos h3, if_pos h3]; exact .inr (.inr (.inl ⟨rfl, rfl⟩))
  · rw [if_neg h1, if_neg h1, if_neg h2, if_neg h2, if_neg h3, if_neg h3]; exact .inr (.inr (.inr ⟨rfl, rfl⟩))
set_option maxHeartbeats 1000000 in
set_option maxRecDepth 100000 in
theorem rput_any (n base : Nat) (bs : List UInt8) (v : Value) (w : World) (hb : base ≤ w.heap.size) (hl : bs.length ≤ 70368744177600) (ho : w.ownsRow base 5 1 v bs.length (bs.map bV)) :
    Calls Try.prog 10 #[v, .int .u64 n] w fun e w' => ∃ v', e = .returned v' ∧ OwnB base base w w' v' (bs ++ putL n) := by
  obtain ⟨i0, hi, hz0, hz1, hz2⟩ := info_parts info_u8
  have HO : Hid (OwnB base base w w v bs) := ⟨ho, Below.refl _ _, hb⟩
  clear ho
  rcases lenN_cases n with ⟨e, e2⟩ | ⟨e, e2⟩ | ⟨e, e2⟩ | ⟨e, e2⟩ <;> rw [e2] <;> clear e2
  · have hby : (n : Int) % 256 = bv (UInt8.ofNat n) := by rw [← bv_of, IntKind.wrap_u8']
    obtain ⟨c, hc⟩ : ∃ c, c = UInt8.ofNat n := ⟨_, rfl⟩
    rw [← hc] at hby ⊢
    have HL : Hid (((lenN n : Nat) : Int) = 1) := by show _ = _; rw [e]; rfl
    clear e hc
    go_enter Try.func10, Try.ntmps10
    go_wp2_with (first | (go_at_call 13; refine (rlen_c n 1 _ HL.out).mono ?_; rintro e w' ⟨rfl, rfl⟩) | (at_builtin; refine wpList_append_own _ rfl _ _ 22 rfl base 5 i0 (.int .u8 0) 1 1 Try.underlying22 hi hz0 hz1 hz2 rfl (by decide) v bs.length _ rfl (HO.out.1.alloc _) ⟨w.heap.size, 0, none⟩ 1 1 [.int .u8 (bv c)] rfl rfl (cell_one_new _ _ _) (one_u8 _) (by unfold maxLen; omega) (by omega) (by simp; omega) ?_; intro v2 w3 ho3 hg3 _; have HN := Lib.hid (HO.out.push c (Nat.le_refl _) ho3 hg3); clear ho3 hg3; go_frame))
    go_ret
    exact ⟨_, rfl, HN.out⟩
  · have HL : Hid (((lenN n : Nat) : Int) = 3) := by show _ = _; rw [e]; rfl
    clear e
    go_enter Try.func10, Try.ntmps10
    go_wp2_with (first | (go_at_call 13; refine (rlen_c n 3 _ HL.out).mono ?_; rintro e w' ⟨rfl, rfl⟩) | (at_builtin; refine wpList_append_own _ rfl _ _ 22 rfl base 5 i0 (.int .u8 0) 1 1 Try.underlying22 hi hz0 hz1 hz2 rfl (by decide) v bs.length _ rfl (HO.out.1.alloc _) ⟨w.heap.size, 0, none⟩ 1 1 [.int .u8 (bv 253)] rfl rfl (cell_one_new _ _ _) (one_u8 _) (by unfold maxLen; omega) (by omega) (by simp; omega) ?_; intro v2 w3 ho3 hg3 _; have HN := Lib.hid (HO.out.push 253 (Nat.le_refl _) ho3 hg3); clear ho3 hg3; go_frame) | (go_at_call 20; refine (little_any n 2 base 2 rfl (bs ++ [253]) v2 _ (by omega) HN.out.2.2 (by simp; omega) HN.out.1).mono ?_; rintro e w4 ⟨v4, rfl, h4⟩; have H4 := Lib.hid h4; clear h4))
    go_ret
    have h := H4.out
    rw [List.append_assoc] at h
    exact ⟨_, rfl, h.1, HN.out.2.1.trans h.2.1, h.2.2⟩
  · have HL : Hid (((lenN n : Nat) : Int) = 5) := by show _ = _; rw [e]; rfl
    clear e
    go_enter Try.func10, Try.ntmps10
    go_wp2_with (first | (go_at_call 13; refine (rlen_c n 5 _ HL.out).mono ?_; rintro e w' ⟨rfl, rfl⟩) | (at_builtin; refine wpList_append_own _ rfl _ _ 22 rfl base 5 i0 (.int .u8 0) 1 1 Try.underlying22 hi hz0 hz1 hz2 rfl (by decide) v bs.length _ rfl (HO.out.1.alloc _) ⟨w.heap.size, 0, none⟩ 1 1 [.int .u8 (bv 254)] rfl rfl (cell_one_new _ _ _) (one_u8 _) (by unfold maxLen; omega) (by omega) (by simp; omega) ?_; intro v2 w3 ho3 hg3 _; have HN := Lib.hid (HO.out.push 254 (Nat.le_refl _) ho3 hg3); clear ho3 hg3; go_frame) | (go_at_call 20; refine (little_any n 4 base 4 rfl (bs ++ [254]) v2 _ (by omega) HN.out.2.2 (by simp; omega) HN.out.1).mono ?_; rintro e w4 ⟨v4, rfl, h4⟩; have H4 := Lib.hid h4; clear h4))
    go_ret
    have h := H4.out
    rw [List.append_assoc] at h
    exact ⟨_, rfl, h.1, HN.out.2.1.trans h.2.1, h.2.2⟩
  · have HL : Hid (((lenN n : Nat) : Int) = 9) := by show _ = _; rw [e]; rfl
    clear e
    go_enter Try.func10, Try.ntmps10
    go_wp2_with (first | (go_at_call 13; refine (rlen_c n 9 _ HL.out).mono ?_; rintro e w' ⟨rfl, rfl⟩) | (at_builtin; refine wpList_append_own _ rfl _ _ 22 rfl base 5 i0 (.int .u8 0) 1 1 Try.underlying22 hi hz0 hz1 hz2 rfl (by decide) v bs.length _ rfl (HO.out.1.alloc _) ⟨w.heap.size, 0, none⟩ 1 1 [.int .u8 (bv 255)] rfl rfl (cell_one_new _ _ _) (one_u8 _) (by unfold maxLen; omega) (by omega) (by simp; omega) ?_; intro v2 w3 ho3 hg3 _; have HN := Lib.hid (HO.out.push 255 (Nat.le_refl _) ho3 hg3); clear ho3 hg3; go_frame) | (go_at_call 20; refine (little_any n 8 base 8 rfl (bs ++ [255]) v2 _ (by omega) HN.out.2.2 (by simp; omega) HN.out.1).mono ?_; rintro e w4 ⟨v4, rfl, h4⟩; have H4 := Lib.hid h4; clear h4))
    go_ret
    have h := H4.out
    rw [List.append_assoc] at h
    exact ⟨_, rfl, h.1, HN.out.2.1.trans h.2.1, h.2.2⟩
set_option maxRecDepth 100000 in
theorem rfour_any (n base : Nat) (bs : List UInt8) (v : Value) (w : World) (hn : n ≤ 4294967295) (hb : base ≤ w.heap.size) (hl : bs.length ≤ 70368744177600) (ho : w.ownsRow base 5 1 v bs.length (bs.map bV)) :
    Calls Try.prog 15 #[v, .int .u32 n] w fun e w' => ∃ v', e = .returned v' ∧ OwnB base base w w' v' (bs ++ leB n 4) := by
  have HO := Lib.hid ho
  clear ho
  go_enter Try.func15, Try.ntmps15
  go_wp2_with (go_at_call 20; refine (little_any n 4 base 4 rfl bs v _ (by omega) hb (by omega) HO.out).mono ?_; rintro e w4 ⟨v4, rfl, h4⟩; have H4 := Lib.hid h4; clear h4)
  go_ret
  exact ⟨_, rfl, H4.out⟩
set_option maxRecDepth 100000 in
theorem reight_any (n base : Nat) (bs : List UInt8) (v : Value) (w : World) (hb : base ≤ w.heap.size) (hl : bs.length ≤ 70368744177600) (ho : w.ownsRow base 5 1 v bs.length (bs.map bV)) :
    Calls Try.prog 17 #[v, .int .u64 n] w fun e w' => ∃ v', e = .returned v' ∧ OwnB base base w w' v' (bs ++ leB n 8) := by
  have HO := Lib.hid ho
  clear ho
  go_enter Try.func17, Try.ntmps17
  go_wp2_with (go_at_call 20; refine (little_any n 8 base 8 rfl bs v _ (by omega) hb (by omega) HO.out).mono ?_; rintro e w4 ⟨v4, rfl, h4⟩; have H4 := Lib.hid h4; clear h4)
  go_ret
  exact ⟨_, rfl, H4.out⟩
end Go.Proofs.Ytdgejdecahdjkaa.Sha
