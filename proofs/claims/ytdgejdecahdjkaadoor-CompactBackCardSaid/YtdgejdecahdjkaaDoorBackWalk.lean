/-
  The statement on a number's bytes, read again, cut off, above what it may be, answers true. Conditions: the bytes lie where the slice says; the errors are there, each its own.
-/
import Derived.Test.YtdgejdecahdjkaaDoorCmpFirst
import Derived.Test.YtdgejdecahdjkaaDoorRefNumb
import Derived.Test.YtdgejdecahdjkaaDoorShaCopy
import Derived.Test.YtdgejdecahdjkaaDoorNumMath
namespace Go.Proofs.YtdgejdecahdjkaaDoor.Sha
open Go Go.RowKit

theorem put_nil (x L : Nat) (hL : L = lenN x) (w : World) : Calls Tryd.prog 8 #[.slice none 0 0, .int .u64 x] w fun e w' => e = .returned (.slice (some ⟨w.heap.size, 0, none⟩) L L) ∧ NewB w w' L L (putL x) := by
  have h := put_any [] none 0 0 x w (.inl ⟨_, _, rfl, rfl⟩) (by omega)
  rw [Nat.zero_add, List.nil_append, ← hL] at h
  exact h
theorem err_fine {E : Nat → Addr} {m : Nat} {bs : List UInt8} {r : Nat} {w : World} (h : RdI E m w r bs 0) :
    Calls Tryd.prog 15 #[.pointer (some ⟨r, 0, none⟩)] w fun e w' => e = .returned .nilIface ∧ w = w' := err_any E m bs 0 r w h
theorem at_some (g n cap : Nat) : AtB (.slice (some ⟨g, 0, none⟩) n cap) g := fun sp k c hv _ => by cases hv; rfl
theorem rs_lt {E : Nat → Addr} {m r c : Nat} {W w : World} {bs : List UInt8} (h : RS E m W w r bs c) {q : Nat} (hq : w.heap.size ≤ q) : r < q ∧ (bs ≠ [] → m < q) :=
  ⟨Nat.lt_of_lt_of_le h.lt hq, fun hb => Nat.lt_of_lt_of_le (h.1.m_lt hb) hq⟩

set_option maxHeartbeats 4000000 in
set_option maxRecDepth 100000 in
theorem back_main (E : Nat → Addr) (x : Nat) (bs : List UInt8) (sp : Option Addr) (n cap : Nat) (cut : Int) (w : World) (hE : Errs w E) (hs : SrcB w (.slice sp n cap) bs) (hx : x ≤ 18446744073709551615) (hn0 : n ≤ 9223372036854775807) (hcut : -9223372036854775808 ≤ cut ∧ cut ≤ 9223372036854775807) :
    Calls Tryd.prog 3 #[.int .u64 x, .slice sp n cap, .int .i64 cut] w fun e w' => e = .returned (.bool true) ∧ Below w.heap.size w w' := by
  have HE := Lib.hid hE
  have HER := Lib.hid hE.er
  have HS := Lib.hid hs
  have HN := Lib.hid hs.le.1
  obtain ⟨i0, hi, hz0, hz1, hz2⟩ := info_parts info_u8
  clear hE hs
  by_cases hn : n ≤ 40
  · have c1 : ¬ (40 : Int) < (n : Int) := by omega
    obtain ⟨L, hL⟩ : ∃ L, L = lenN x := ⟨_, rfl⟩
    have hLb := lenN_bd x
    rw [← hL] at hLb
    obtain ⟨hL1, hL9⟩ := hLb
    have c2 : ¬ (L : Int) < 1 := by omega
    obtain ⟨j, hj, hj2⟩ := numb_nat cut L (by omega)
    have hnum := fun W => numb_any cut (L : Int) (by omega) (by omega) hcut W
    have hj' : numb cut (L : Int) = (j : Int) := hj
    rw [hj'] at hnum
    have HNUM := Lib.hid hnum
    have HLEN := Lib.hid hL
    have HK : Hid (((lenN x : Nat) : Int) = (L : Int)) := by show _ = _; rw [← hL]
    have HPL : Hid ((putL x).length = L) := by show _ = _; rw [putL_length, ← hL]
    have TR : Hid (numL x (putL x ++ bs) 0 = (x, bs, 0)) := by show _ = _; rw [numL_put x x bs hx, if_neg (by omega)]
    obtain ⟨bc, hbc⟩ := numL_cut x x j (by rw [← hL]; exact hj2)
    have TS := Lib.hid hbc
    have HNI : Hid ((((bs.length : Nat) : Int)) = (n : Int)) := by show _ = _; rw [HN.out]
    have hne : putL x ≠ [] := fun e => by have := HPL.out; rw [e] at this; simp at this; omega
    have HNE := Lib.hid hne
    have TT : Hid (0 < x → numL (x - 1) (putL x) 0 = (0, [], 4)) := fun h => by
      have h2 := numL_put (x - 1) x [] hx
      rw [List.append_nil, if_pos (by omega)] at h2
      exact h2
    have HXX := Lib.hid hx
    clear hj hj' hnum hcut hL hbc hne hx
    go_enter Tryd.func3, Tryd.ntmps3
    go_wp2_with fail
    refine (first2_any _).mono ?_
    rintro e w1 ⟨rfl, hb1⟩
    have HB1 := Lib.hid hb1
    clear hb1
    go_wp2_with fail
    refine (put_nil x L HLEN.out _).mono ?_
    rintro e w2 ⟨rfl, h2⟩
    obtain ⟨g, hg⟩ : ∃ g, g = w1.heap.size := ⟨_, rfl⟩
    have s2 := src_own h2.1
    rw [← hg] at s2 ⊢
    have S2 := Lib.hid s2
    have HB2 := Lib.hid (HB1.out.trans (h2.2.mono HB1.out.size))
    have hgl : g < w2.heap.size := by rw [hg]; exact h2.lt
    clear h2 s2 HB1 hg
    go_wp2_with fail
    refine (len_is x (L : Int) _ HK.out).mono ?_
    rintro e w' ⟨rfl, rfl⟩
    go_wp2_with fail
    refine (bytes_copy_any (putL x) (some ⟨g, 0, none⟩) L L _ S2.out (by omega)).mono ?_
    rintro e w3 ⟨rfl, ho, hb⟩
    have HO3 := Lib.hid ho
    have HB3 := Lib.hid hb
    clear ho hb
    go_wp2_with (at_builtin; refine wpList_append_any _ rfl _ _ 23 rfl w2.heap.size 5 i0 Tryd.underlying23 hi hz0 hz1 hz2 (.slice (some ⟨w2.heap.size, 0, none⟩) L L) L _ rfl HO3.out (.slice sp n cap) bs rfl ((HS.out.below HB2.out).below HB3.out) (by have := HN.out; omega) HB3.out.size ?_; intro v4 w4 ho4 hg4; go_frame)
    have B24 := Lib.hid (own_grown HB3.out (Nat.le_refl _) HB3.out.size HO3.out hg4.out)
    have S4 : Hid (SrcB w4 v4 (putL x ++ bs)) := src_own (n := L + bs.length) (by rw [List.map_append]; exact ho4.out)
    have SB4 := Lib.hid (S2.out.below B24.out)
    have HB4 := Lib.hid (HB2.out.trans (B24.out.mono HB2.out.size))
    have hgl4 : g < w4.heap.size := by have := B24.out.size; omega
    clear hgl ho4 hg4 HO3 HB3 S2 HB2 B24
    refine (read_any E (putL x ++ bs) v4 _ S4.out (by have h1 := HPL.out; have h2 := HN.out; rw [List.length_append]; omega)).mono ?_
    rintro e w5 ⟨mr, r, rfl, h5⟩
    have hgr : g ≠ r := by have := h5.2.2.1; omega
    have RR5 := Lib.hid (h5.rs HB4.out)
    have SB5 := Lib.hid (SB4.out.below h5.2.1)
    have hgl5 : g < w5.heap.size := by have := h5.2.1.size; omega
    clear h5 SB4 S4 HB4 hgl4
    go_wp2_with fail
    refine (num_is x x (RR5.out.er HER.out) RR5.out.1 TR.out).mono ?_
    rintro e w6 ⟨rfl, i, gr⟩
    have SB6 := Lib.hid (SB5.out.grown (at_some g L L) hgr gr)
    have hgl6 : g < w6.heap.size := by have := gr.size; omega
    have RR6 := Lib.hid (RR5.out.step i gr)
    clear i gr RR5 SB5 hgl5
    go_wp2_with fail
    refine (left_any E mr bs 0 r _ RR6.out.1).mono ?_
    rintro e w' ⟨rfl, rfl⟩
    rw [HNI.out]
    go_wp2_with fail
    refine (HNUM.out _).mono ?_
    rintro e w' ⟨rfl, rfl⟩
    go_wp2_with ((with_reducible show wpList _ _ _ _ _ _); refine wpList_cut_h rfl 23 (.tmp 44) (.tmp 48) rfl 5 Tryd.underlying23 (by kernel_rfl) (some ⟨g, 0, none⟩) L L j rfl rfl (by omega) ?_; intro vh hvh; go_frame)
    have sc := src_sliced SB6.out 0 j (by omega) (by omega)
    rw [List.drop_zero, ← hvh.out] at sc
    have SC := Lib.hid sc
    clear sc hvh
    refine (read_any E ((putL x).take j) vh _ SC.out (by have h1 := HPL.out; rw [List.length_take]; omega)).mono ?_
    rintro e w7 ⟨ms, s, rfl, h7⟩
    obtain ⟨qrs, qrs2⟩ := rs_lt RR6.out h7.2.2.1
    have QRS := Lib.hid qrs2
    have RS7 := Lib.hid (h7.rs RR6.out.2.1)
    have RR7 := Lib.hid (RR6.out.keep h7.2.1)
    have SB7 := Lib.hid (SB6.out.below h7.2.1)
    have hgs : g ≠ s := by have := h7.2.2.1; omega
    have hgl7 : g < w7.heap.size := by have := h7.2.1.size; omega
    clear h7 SC RR6 SB6 hgl6 qrs2
    go_wp2_with fail
    refine (num_is x 0 (RS7.out.er HER.out) RS7.out.1 TS.out).mono ?_
    rintro e w8 ⟨rfl, i, gr⟩
    have RR8 := Lib.hid (RR7.out.other gr (by omega) (fun h => by have := QRS.out h; omega) RS7.out.2.2)
    have SB8 := Lib.hid (SB7.out.grown (at_some g L L) hgs gr)
    have RS8 := Lib.hid (RS7.out.step i gr)
    have hgl8 : g < w8.heap.size := by have := gr.size; omega
    clear i gr RS7 RR7 SB7 hgl7 QRS
    go_wp2_with fail
    refine (read_any E (putL x) _ _ SB8.out (by have h1 := HPL.out; omega)).mono ?_
    rintro e w9 ⟨mt, t, rfl, h9⟩
    obtain ⟨qrt, qrt2⟩ := rs_lt RR8.out h9.2.2.1
    obtain ⟨qst, qst2⟩ := rs_lt RS8.out h9.2.2.1
    have QRT := Lib.hid qrt2
    have QST := Lib.hid qst2
    have RT9 := Lib.hid (h9.rs RR8.out.2.1)
    have RR9 := Lib.hid (RR8.out.keep h9.2.1)
    have RS9 := Lib.hid (RS8.out.keep h9.2.1)
    clear h9 RR8 RS8 SB8 hgl8 qrt2 qst2
    by_cases hx0 : 0 < x
    · have c3 : (0 : Int) < (x : Int) := by omega
      have c4 : ((x : Int) == 0) = false := by rw [beq_eq_false_iff_ne]; omega
      obtain ⟨y, hy⟩ : ∃ y, y = x - 1 := ⟨_, rfl⟩
      have hyi : (x : Int) - 1 = (y : Int) := by omega
      have hy64 : (y : Int) % 18446744073709551616 = (y : Int) := by have := HXX.out; omega
      have hyw : IntKind.u64.wrap (y : Int) = (y : Int) := by rw [IntKind.wrap_u64]; exact hy64
      have hyv : IntKind.u64.wrap ((x : Int) - 1) = (y : Int) := by rw [hyi]; exact hyw
      have TTx := Lib.hid (TT.out hx0)
      rw [← hy] at TTx
      clear hy hx0
      go_wp2_with fail

      refine (num_is y 0 (RT9.out.er HER.out) RT9.out.1 TTx.out).mono ?_
      rintro e wa ⟨rfl, i, gr⟩
      have RRa := Lib.hid (RR9.out.other gr (by omega) (fun h => by have := QRT.out h; omega) RT9.out.2.2)
      have RSa := Lib.hid (RS9.out.other gr (by omega) (fun h => by have := QST.out h; omega) RT9.out.2.2)
      have RTa := Lib.hid (RT9.out.step i gr)
      clear i gr RR9 RS9 RT9 hyi hy64 hyw hyv
      go_wp2_with fail
      refine (err_fine RRa.out.1).mono ?_
      rintro e w' ⟨rfl, rfl⟩
      go_wp2_with fail
      refine (err_any E ms bc 1 s _ RSa.out.1).mono ?_
      rintro e w' ⟨rfl, rfl⟩
      go_wp2_with fail
      refine (is_any E 1 101 true rfl _ (HE.out.below RSa.out.2.1) (by omega)).mono ?_
      rintro e wb ⟨rfl, hb⟩
      have RTb := Lib.hid (RTa.out.keep hb)
      clear hb RTa RSa RRa
      go_wp2_with fail
      refine (err_any E mt [] 4 t _ RTb.out.1).mono ?_
      rintro e w' ⟨rfl, rfl⟩
      go_wp2_with fail
      refine (is_any E 4 104 true rfl _ (HE.out.below RTb.out.2.1) (by omega)).mono ?_
      rintro e wc ⟨rfl, hb⟩
      have RTc := Lib.hid (RTb.out.keep hb)
      clear hb RTb
      go_wp2_with fail
      go_ret
      exact ⟨rfl, RTc.out.2.1⟩
    · obtain rfl : x = 0 := by omega
      clear hx0
      go_wp2_with fail
      refine (err_fine RR9.out.1).mono ?_
      rintro e w' ⟨rfl, rfl⟩
      go_wp2_with fail
      refine (err_any E ms bc 1 s _ RS9.out.1).mono ?_
      rintro e w' ⟨rfl, rfl⟩
      go_wp2_with fail
      refine (is_any E 1 101 true rfl _ (HE.out.below RS9.out.2.1) (by omega)).mono ?_
      rintro e wb ⟨rfl, hb⟩
      have RTb := Lib.hid (RT9.out.keep hb)
      clear hb RT9 RS9 RR9
      go_wp2_with fail
      go_ret
      exact ⟨rfl, RTb.out.2.1⟩
  · have c1 : (40 : Int) < (n : Int) := by omega
    go_enter Tryd.func3, Tryd.ntmps3
    go_wp2_with fail
    refine (first2_any _).mono ?_
    rintro e w1 ⟨rfl, hb1⟩
    have HB1 := Lib.hid hb1
    clear hb1
    go_wp2_with fail
    go_ret
    exact ⟨rfl, HB1.out⟩
end Go.Proofs.YtdgejdecahdjkaaDoor.Sha
