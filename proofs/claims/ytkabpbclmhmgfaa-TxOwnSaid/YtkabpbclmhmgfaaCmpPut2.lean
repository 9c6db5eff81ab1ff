/-
  compact.Put answers the bytes and behind them the number in the fewest bytes, in new memory; nothing that was there turns. Conditions: fewer than 2^46 bytes, which lie where the slice says.
-/
import Derived.Test.YtkabpbclmhmgfaaCmpPut
namespace Go.Proofs.Ytkabpbclmhmgfaa.Sha
open Go Go.RowKit

theorem ret_slice {p : Option Addr} {a b c : Nat} (h : a = b) : Ending.returned (.slice p a c) = .returned (.slice p b c) := by rw [h]
theorem newB_of {w w' : World} {k k2 c : Nat} {bs : List UInt8} (h : NewB w w' k c bs) (hk : k = k2) : NewB w w' k2 c bs := by subst hk; exact h
set_option maxRecDepth 100000 in
theorem put_0 (bs : List UInt8) (sp : Option Addr) (n cap x : Nat) (w : World) (hs : SrcB w (.slice sp n cap) bs) (hn : n ≤ 70368744177664) (hl : lenN x = 1) :
    Calls Try.prog 16 #[.slice sp n cap, .int .u64 x] w fun e w' => e = .returned (.slice (some ⟨w.heap.size, 0, none⟩) (n + 1) (n + 1)) ∧ NewB w w' (n + 1) (n + 1) (bs ++ [UInt8.ofNat x]) := by
  obtain ⟨i0, hi, hz0, hz1, hz2⟩ := info_parts info_u8
  have hby : (x : Int) % 256 = bv (UInt8.ofNat x) := by rw [← bv_of, IntKind.wrap_u8']
  obtain ⟨c, hc⟩ : ∃ c, c = UInt8.ofNat x := ⟨_, rfl⟩
  rw [← hc] at hby ⊢
  have HS := Lib.hid hs
  have HL := Lib.hid (show ((lenN x : Nat) : Int) = 1 by rw [hl]; rfl)
  clear hs hl hc
  go_enter Try.func16, Try.ntmps16
  go_wp2_with (first | (go_at_call 19; refine (len_is x 1 _ HL.out).mono ?_; rintro e w' ⟨rfl, rfl⟩) | (go_at_call 24; refine (room_any bs sp n cap 1 1 rfl _ HS.out hn (by omega)).mono ?_; rintro e w1 ⟨rfl, hn1⟩; have HN1 := Lib.hid hn1; clear hn1) | (at_builtin; refine wpList_append_fits _ rfl _ _ 34 rfl w.heap.size 5 i0 1 Try.underlying34 hi hz1 w.heap.size n (n + 1) _ rfl (HN1.out.1.alloc _) ⟨w1.heap.size, 0, none⟩ 1 1 [.int .u8 (bv c)] rfl rfl (cell_one_new _ _ _) (one_u8 _) (by omega) ?_; intro w2 ho hg; have HN2 := Lib.hid (HN1.out.push c ho hg); clear ho hg; go_frame))
  go_ret
  exact ⟨rfl, HN2.out⟩
set_option maxHeartbeats 400000 in
set_option maxRecDepth 100000 in
theorem put_2 (bs : List UInt8) (sp : Option Addr) (n cap x : Nat) (w : World) (hs : SrcB w (.slice sp n cap) bs) (hn : n ≤ 70368744177664) (hl : lenN x = 3) :
    Calls Try.prog 16 #[.slice sp n cap, .int .u64 x] w fun e w' => e = .returned (.slice (some ⟨w.heap.size, 0, none⟩) (n + 3) (n + 3)) ∧ NewB w w' (n + 3) (n + 3) (bs ++ 253 :: leB x 2) := by
  obtain ⟨i0, hi, hz0, hz1, hz2⟩ := info_parts info_u8
  have HS := Lib.hid hs
  have HL := Lib.hid (show ((lenN x : Nat) : Int) = 3 by rw [hl]; rfl)
  clear hs hl
  go_enter Try.func16, Try.ntmps16
  go_wp2_with (first | (go_at_call 19; refine (len_is x 3 _ HL.out).mono ?_; rintro e w' ⟨rfl, rfl⟩) | (go_at_call 24; refine (room_any bs sp n cap 3 3 rfl _ HS.out hn (by omega)).mono ?_; rintro e w1 ⟨rfl, hn1⟩; have HN1 := Lib.hid hn1; clear hn1) | (at_builtin; refine wpList_append_fits _ rfl _ _ 34 rfl w.heap.size 5 i0 1 Try.underlying34 hi hz1 w.heap.size n (n + 3) _ rfl (HN1.out.1.alloc _) ⟨w1.heap.size, 0, none⟩ 1 1 [.int .u8 (bv 253)] rfl rfl (cell_one_new _ _ _) (one_u8 _) (by omega) ?_; intro w2 ho hg; have HN2 := Lib.hid (HN1.out.push 253 ho hg); clear ho hg; go_frame) | (go_at_call 23; refine (lowest_any x 2 w.heap.size (n + 1) (n + 3) 2 rfl ((bs ++ [253]).map bV) _ (by omega) (by omega) (by omega) HN2.out.lt HN2.out.1).mono ?_; rintro e w3 ⟨rfl, ho, hb⟩; have HN3 := Lib.hid (HN2.out.low hb ho); clear ho hb))
  go_ret
  have h := HN3.out
  rw [List.append_assoc] at h
  exact ⟨ret_slice (by omega), newB_of h (by omega)⟩
set_option maxHeartbeats 400000 in
set_option maxRecDepth 100000 in
theorem put_4 (bs : List UInt8) (sp : Option Addr) (n cap x : Nat) (w : World) (hs : SrcB w (.slice sp n cap) bs) (hn : n ≤ 70368744177664) (hl : lenN x = 5) :
    Calls Try.prog 16 #[.slice sp n cap, .int .u64 x] w fun e w' => e = .returned (.slice (some ⟨w.heap.size, 0, none⟩) (n + 5) (n + 5)) ∧ NewB w w' (n + 5) (n + 5) (bs ++ 254 :: leB x 4) := by
  obtain ⟨i0, hi, hz0, hz1, hz2⟩ := info_parts info_u8
  have HS := Lib.hid hs
  have HL := Lib.hid (show ((lenN x : Nat) : Int) = 5 by rw [hl]; rfl)
  clear hs hl
  go_enter Try.func16, Try.ntmps16
  go_wp2_with (first | (go_at_call 19; refine (len_is x 5 _ HL.out).mono ?_; rintro e w' ⟨rfl, rfl⟩) | (go_at_call 24; refine (room_any bs sp n cap 5 5 rfl _ HS.out hn (by omega)).mono ?_; rintro e w1 ⟨rfl, hn1⟩; have HN1 := Lib.hid hn1; clear hn1) | (at_builtin; refine wpList_append_fits _ rfl _ _ 34 rfl w.heap.size 5 i0 1 Try.underlying34 hi hz1 w.heap.size n (n + 5) _ rfl (HN1.out.1.alloc _) ⟨w1.heap.size, 0, none⟩ 1 1 [.int .u8 (bv 254)] rfl rfl (cell_one_new _ _ _) (one_u8 _) (by omega) ?_; intro w2 ho hg; have HN2 := Lib.hid (HN1.out.push 254 ho hg); clear ho hg; go_frame) | (go_at_call 23; refine (lowest_any x 4 w.heap.size (n + 1) (n + 5) 4 rfl ((bs ++ [254]).map bV) _ (by omega) (by omega) (by omega) HN2.out.lt HN2.out.1).mono ?_; rintro e w3 ⟨rfl, ho, hb⟩; have HN3 := Lib.hid (HN2.out.low hb ho); clear ho hb))
  go_ret
  have h := HN3.out
  rw [List.append_assoc] at h
  exact ⟨ret_slice (by omega), newB_of h (by omega)⟩
set_option maxHeartbeats 400000 in
set_option maxRecDepth 100000 in
theorem put_8 (bs : List UInt8) (sp : Option Addr) (n cap x : Nat) (w : World) (hs : SrcB w (.slice sp n cap) bs) (hn : n ≤ 70368744177664) (hl : lenN x = 9) :
    Calls Try.prog 16 #[.slice sp n cap, .int .u64 x] w fun e w' => e = .returned (.slice (some ⟨w.heap.size, 0, none⟩) (n + 9) (n + 9)) ∧ NewB w w' (n + 9) (n + 9) (bs ++ 255 :: leB x 8) := by
  obtain ⟨i0, hi, hz0, hz1, hz2⟩ := info_parts info_u8
  have HS := Lib.hid hs
  have HL := Lib.hid (show ((lenN x : Nat) : Int) = 9 by rw [hl]; rfl)
  clear hs hl
  go_enter Try.func16, Try.ntmps16
  go_wp2_with (first | (go_at_call 19; refine (len_is x 9 _ HL.out).mono ?_; rintro e w' ⟨rfl, rfl⟩) | (go_at_call 24; refine (room_any bs sp n cap 9 9 rfl _ HS.out hn (by omega)).mono ?_; rintro e w1 ⟨rfl, hn1⟩; have HN1 := Lib.hid hn1; clear hn1) | (at_builtin; refine wpList_append_fits _ rfl _ _ 34 rfl w.heap.size 5 i0 1 Try.underlying34 hi hz1 w.heap.size n (n + 9) _ rfl (HN1.out.1.alloc _) ⟨w1.heap.size, 0, none⟩ 1 1 [.int .u8 (bv 255)] rfl rfl (cell_one_new _ _ _) (one_u8 _) (by omega) ?_; intro w2 ho hg; have HN2 := Lib.hid (HN1.out.push 255 ho hg); clear ho hg; go_frame) | (go_at_call 23; refine (lowest_any x 8 w.heap.size (n + 1) (n + 9) 8 rfl ((bs ++ [255]).map bV) _ (by omega) (by omega) (by omega) HN2.out.lt HN2.out.1).mono ?_; rintro e w3 ⟨rfl, ho, hb⟩; have HN3 := Lib.hid (HN2.out.low hb ho); clear ho hb))
  go_ret
  have h := HN3.out
  rw [List.append_assoc] at h
  exact ⟨ret_slice (by omega), newB_of h (by omega)⟩
theorem put_any (bs : List UInt8) (sp : Option Addr) (n cap x : Nat) (w : World) (hs : SrcB w (.slice sp n cap) bs) (hn : n ≤ 70368744177664) :
    Calls Try.prog 16 #[.slice sp n cap, .int .u64 x] w fun e w' => e = .returned (.slice (some ⟨w.heap.size, 0, none⟩) (n + lenN x) (n + lenN x)) ∧ NewB w w' (n + lenN x) (n + lenN x) (bs ++ putL x) := by
  by_cases h1 : x < 253
  · have e : lenN x = 1 := by unfold lenN; rw [if_pos h1]
    have e2 : putL x = [UInt8.ofNat x] := by unfold putL; rw [if_pos h1]
    rw [e2]
    simp only [e]
    exact put_0 bs sp n cap x w hs hn e
  by_cases h2 : x ≤ 65535
  · have e : lenN x = 3 := by unfold lenN; rw [if_neg h1, if_pos h2]
    have e2 : putL x = 253 :: leB x 2 := by unfold putL; rw [if_neg h1, if_pos h2]
    rw [e2]
    simp only [e]
    exact put_2 bs sp n cap x w hs hn e
  by_cases h3 : x ≤ 4294967295
  · have e : lenN x = 5 := by unfold lenN; rw [if_neg h1, if_neg h2, if_pos h3]
    have e2 : putL x = 254 :: leB x 4 := by unfold putL; rw [if_neg h1, if_neg h2, if_pos h3]
    rw [e2]
    simp only [e]
    exact put_4 bs sp n cap x w hs hn e
  · have e : lenN x = 9 := by unfold lenN; rw [if_neg h1, if_neg h2, if_neg h3]
    have e2 : putL x = 255 :: leB x 8 := by unfold putL; rw [if_neg h1, if_neg h2, if_neg h3]
    rw [e2]
    simp only [e]
    exact put_8 bs sp n cap x w hs hn e
end Go.Proofs.Ytkabpbclmhmgfaa.Sha
