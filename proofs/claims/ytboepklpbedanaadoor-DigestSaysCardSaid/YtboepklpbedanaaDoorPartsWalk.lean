/-
  The statement on a Writer's parts answers true: however the bytes are cut, at each time the Writer has the digest of all that came. Conditions: the bytes and the cuts lie where the slices say, the table is there.
-/
import Derived.Test.YtboepklpbedanaaDoorShaReg
namespace Go.Proofs.YtboepklpbedanaaDoor.Sha
open Go Go.RowKit

theorem writer_setup {w w1 : World} (hb : Below w.heap.size w w1) : Below w.heap.size w (w1.alloc (.cells zeroW 35)) ∧ WInv (w1.alloc (.cells zeroW 35)) w1.heap.size [] :=
  ⟨hb.alloc hb.size _, zero_inv (heap_alloc_new _ _)⟩
theorem take_more (bs : List UInt8) (i j : Nat) (h : i ≤ j) : bs.take i ++ (bs.take j).drop i = bs.take j := by
  have e : (bs.take j).take i = bs.take i := by rw [List.take_take, Nat.min_eq_left h]
  rw [← e, List.take_append_drop]
theorem WInv.row {w : World} {B : Nat} {l : List UInt8} (h : WInv w B l) : ∃ cs : List Value, cs.length = 72 ∧ w.heap[B]? = some (.cells (cs ++ [Value.int .i64 l.length]).toArray 35 (0, 0)) := by
  obtain ⟨s, p, hc, _, _⟩ := h
  refine ⟨s.cells ++ p.map bV, by simp [St.cells_length, hc.1], ?_⟩
  rw [hc.2, List.append_assoc]
theorem WInv.len {w : World} {B : Nat} {l : List UInt8} (h : WInv w B l) : Calls Tryd.prog 22 #[.pointer (some ⟨B, 0, none⟩)] w fun e w' => e = .returned (.int .i64 l.length) ∧ w = w' := by
  obtain ⟨cs, h1, h2⟩ := h.row
  exact len_any B l.length _ cs h1 w h2
theorem numb_nat (x : Int) (n : Nat) (h : 1 ≤ n) : ∃ r : Nat, numb x n = r ∧ r < n := by
  have := numb_bd x n (by omega)
  exact ⟨(numb x n).toNat, by omega, by omega⟩

theorem src_head {w : World} {sp : Option Addr} {n cap : Nat} {bs : List UInt8} (h : SrcB w (.slice sp n cap) bs) (r : Nat) (h2 : r ≤ n) : SrcB w (sliced sp 0 r cap 1) (bs.take r) := by
  have := src_sliced h 0 r (Nat.zero_le _) h2
  rwa [List.drop_zero] at this
theorem src_tail {w : World} {sp : Option Addr} {n cap : Nat} {bs : List UInt8} (h : SrcB w (.slice sp n cap) bs) (l : Nat) (h2 : l ≤ n) : SrcB w (sliced sp l n cap 1) (bs.drop l) := by
  have := src_sliced h l n h2 (Nat.le_refl _)
  rwa [List.take_of_length_le (by rw [h.le.1]; exact Nat.le_refl _)] at this

def PtInv (bs : List UInt8) (m n B : Nat) (w : World) (vat vi : Value) (wr : World) : Prop :=
  ∃ k pos : Nat, k ≤ m ∧ pos ≤ n ∧ vi = .int .i64 k ∧ vat = .int .i64 pos ∧ WInv wr B (bs.take pos) ∧ Below w.heap.size w wr

set_option maxHeartbeats 1000000 in
set_option maxRecDepth 100000 in
theorem parts_main (bs : List UInt8) (sp cp : Option Addr) (n cap m ccap : Nat) (z : Nat → Int) (w : World) (hk : KTab w) (hs : SrcB w (.slice sp n cap) bs)
    (hcuts : 0 < m → ∃ cb coff, cp = some ⟨cb, coff, none⟩ ∧ ∀ i, i < m → w.cell? ⟨cb, coff + i, none⟩ = some (.int .i64 (z i)) ∧ -9223372036854775808 ≤ z i ∧ z i ≤ 9223372036854775807) (hn : n ≤ 400) (hm : m ≤ 6) :
    Calls Tryd.prog 4 #[.slice sp n cap, .slice cp m ccap] w fun e w' => e = .returned (.bool true) ∧ Below w.heap.size w w' := by
  have HNB := Lib.hid hs.le.1
  have hcap := hs.le.2
  have HK := Lib.hid hk
  have HS := Lib.hid hs
  have HC := Lib.hid hcuts
  have hzw := zero_writer
  clear hk hs hcuts
  go_enter Tryd.func4, Tryd.ntmps4
  go_wp2_with (go_at_call 8; refine (first_any _ HK.out).mono ?_; rintro e w1 ⟨rfl, hb1⟩; have HB1 := Lib.hid hb1; clear hb1)
  obtain ⟨f1, f2⟩ := writer_setup HB1.out
  obtain ⟨B, hB⟩ : ∃ B, B = w1.heap.size := ⟨_, rfl⟩
  have hBw : w.heap.size ≤ B := by rw [hB]; exact HB1.out.size
  rw [← hB] at f2 ⊢
  generalize hw2 : World.alloc _ _ = w2
  rw [hw2] at f1 f2
  have F1 := Lib.hid f1
  have F2 := Lib.hid f2
  have hp := HK.out.pos
  clear hw2 f1 f2 hB HB1 hzw
  go_loopw [7, 8] (fun vat vi wr => PtInv bs m n B w vat vi wr) (fun _ vi _ => m - (intOf vi).toNat)
  case atStart => exact ⟨0, 0, by omega, by omega, rfl, rfl, F2.out, F1.out⟩
  case round =>
    clear F1 F2
    obtain ⟨k, pos, hkm, hpos, rfl, rfl, hI, hb⟩ := hrel
    have HI := Lib.hid hI
    have HB := Lib.hid hb
    clear hI hb
    by_cases hlt : k < m
    · obtain ⟨cb, coff, rfl, hc⟩ := HC.out (by omega)
      obtain ⟨ck, zlo, zhi⟩ := hc k hlt
      have ck' : wr.cell? ⟨cb, coff + k, none⟩ = some (.int .i64 (z k)) := by rw [HB.out.cell (p := ⟨cb, coff + k, none⟩) (World.block_lt_of_cell? w _ ck)]; exact ck
      clear ck hc
      obtain ⟨r, hr, hrn⟩ := numb_nat (z k) (n - pos + 1) (by omega)
      have hnum := numb_any (z k) ((n : Int) - pos + 1) (by omega) (by omega) ⟨zlo, zhi⟩ wr
      rw [show ((n : Int) - pos + 1) = ((n - pos + 1 : Nat) : Int) by omega, hr, show ((n - pos + 1 : Nat) : Int) = ((n : Int) - pos + 1) by omega] at hnum
      have HNUM := Lib.hid hnum
      obtain ⟨p2, hp2⟩ : ∃ p2, p2 = pos + r := ⟨_, rfl⟩
      have hsum : (pos : Int) + (r : Int) = (p2 : Int) := by omega
      have HP2 := Lib.hid hp2
      have hp2n : p2 ≤ n := by omega
      have hp2p : pos ≤ p2 := by omega
      have hsub : ((n : Int) - (pos : Int)) ≤ 400 := by omega
      have hsub2 : 0 ≤ ((n : Int) - (pos : Int)) := by omega
      clear hr hnum zlo zhi hp2
      have HSR := Lib.hid (HS.out.below HB.out)
      go_wp2_with (first | (go_at_call 19; refine HNUM.out.mono ?_; rintro e w' ⟨rfl, rfl⟩) | ((with_reducible show wpList _ _ _ _ _ _); refine wpList_cut_lh rfl 22 (.tmp 38) (.tmp 39) (.tmp 42) rfl 5 Tryd.underlying22 (by kernel_rfl) sp n cap pos p2 rfl rfl rfl hp2p (Nat.le_trans hp2n hcap) ?_; intro v hv; go_frame))
      have hv1 : SrcB wr v ((bs.take p2).drop pos) := by rw [hv.out]; exact src_sliced HSR.out pos p2 hp2p hp2n
      have hv2 : SrcB w v ((bs.take p2).drop pos) := by rw [hv.out]; exact src_sliced HS.out pos p2 hp2p hp2n
      have hlen : (bs.take pos).length + ((bs.take p2).drop pos).length ≤ 1152921504606846975 := by
        rw [← List.length_append, take_more bs pos p2 hp2p, List.length_take]
        have := HNB.out
        omega
      refine (write_any (bs.take pos) ((bs.take p2).drop pos) v B wr (HK.out.below HB.out) (by omega) hv1 (hv2.ne hBw) hlen HI.out).mono ?_
      rintro e w3 ⟨rfl, hI3, hG3⟩
      rw [take_more bs pos p2 hp2p] at hI3
      have B3 := grownBy_below hG3 HB.out hBw HB.out.size
      have HI3 := Lib.hid hI3
      have HB3 := Lib.hid B3
      clear hI3 hG3 B3 hv1 hv2 hlen
      have hlen3 : (bs.take p2).length = p2 := by rw [List.length_take]; have := HNB.out; omega
      have HL3 := Lib.hid hlen3
      have HK3 := Lib.hid (HK.out.below HB3.out)
      obtain ⟨v2, hv2⟩ : ∃ v2, sliced sp 0 p2 cap 1 = v2 := ⟨_, rfl⟩
      have HS3 : Hid (SrcB w3 v2 (bs.take p2)) := by
        show SrcB w3 v2 (bs.take p2)
        rw [← hv2]
        exact src_head (HS.out.below HB3.out) p2 hp2n
      have HV2 := Lib.hid hv2
      clear hlen3 hv2 ck'
      have hz2 : ((p2 : Int) != (p2 : Int)) = false := by simp
      go_upto_region 14 with (fail)
      refine wp_region_below (by kernel_rfl) (by kernel_rfl) w3 (Below.refl _ _) ?_
      go_big_quiet_step ((intro hw'; exact cls hw' (sum_any (bs.take p2) B _ (HK3.out.below hw') (by rw [HL3.out]; omega) (HI3.out.below hw'))))
      go_big_quiet_step ((intro _; rfl))
      go_big_quiet_step ((intro _; rfl))
      go_big_quiet_want
      refine quiet_cut_h 22 (.tmp 49) (.tmp 50) rfl 5 Tryd.underlying22 (by kernel_rfl) sp n cap p2 rfl rfl (Nat.le_trans hp2n hcap) v2 HV2.out ?_
      go_frame
      go_big_quiet_on
      go_big_quiet_step ((intro hw'; exact cls hw' (sha_any (bs.take p2) v2 _ (HK3.out.below hw') (HS3.out.below hw') (by rw [HL3.out]; omega))))
      go_big_quiet_step ((intro hw'; exact cls hw' (same_true _ _ rfl (sha_length _) _)))
      go_big_quiet_step ((intro _; rfl))
      go_big_quiet_step ((intro _; rfl))
      go_big_quiet_step ((intro hw'; have hq := (HI3.out.below hw').len; rw [HL3.out] at hq; exact cls0 hw' hq))
      repeat (go_big_quiet_step ((intro _; rfl)))
      refine wpQuiet_nil ?_
      intro w4 hw4
      have HW4 := Lib.hid hw4
      clear hw4
      go_wp2_with fail
      go_roundw
      case rel => exact ⟨k + 1, p2, by omega, hp2n, by go_num, rfl, HI3.out.below HW4.out, HB3.out.trans (HW4.out.mono HB3.out.size)⟩
      case measure => simp [intOf]; omega
    · have hge : ¬ (k : Int) < (m : Int) := by omega
      have HSR := Lib.hid (HS.out.below HB.out)
      go_wp2_with ((with_reducible show wpList _ _ _ _ _ _); refine wpList_cut_l rfl 22 (.tmp 60) (.tmp 61) rfl 5 Tryd.underlying22 (by kernel_rfl) sp n cap pos rfl rfl hpos ?_; intro v hv; go_frame)
      have hv1 : SrcB wr v (bs.drop pos) := by rw [hv.out]; exact src_tail HSR.out pos hpos
      have hv2 : SrcB w v (bs.drop pos) := by rw [hv.out]; exact src_tail HS.out pos hpos
      have hlen : (bs.take pos).length + (bs.drop pos).length ≤ 1152921504606846975 := by
        rw [← List.length_append, List.take_append_drop]
        have := HNB.out
        omega
      refine (write_any (bs.take pos) (bs.drop pos) v B wr (HK.out.below HB.out) (by omega) hv1 (hv2.ne hBw) hlen HI.out).mono ?_
      rintro e w3 ⟨rfl, hI3, hG3⟩
      rw [List.take_append_drop] at hI3
      have B3 := grownBy_below hG3 HB.out hBw HB.out.size
      have HI3 := Lib.hid hI3
      have HB3 := Lib.hid B3
      clear hI3 hG3 B3 hv1 hv2 hlen hge hlt hkm hpos
      have hnb : bs.length ≤ 576460752303423487 := by have := HNB.out; omega
      go_wp2_with fail
      refine (sum_any bs B _ (HK.out.below HB3.out) hnb HI3.out).mono ?_
      rintro e w4 ⟨rfl, hb4⟩
      have HB4 := Lib.hid (HB3.out.trans (hb4.mono HB3.out.size))
      have HI4 := Lib.hid (HI3.out.below hb4)
      clear hb4
      go_wp2_with fail
      refine (sha_any bs _ _ (HK.out.below HB4.out) (HS.out.below HB4.out) hnb).mono ?_
      rintro e w5 ⟨rfl, hb5⟩
      have HB5 := Lib.hid (HB4.out.trans (hb5.mono HB4.out.size))
      have HI5 := Lib.hid (HI4.out.below hb5)
      clear hb5
      go_wp2_with fail
      refine (same_true _ _ rfl (sha_length _) _).mono ?_
      rintro e w6 ⟨rfl, hb6⟩
      have HB6 := Lib.hid (HB5.out.trans (hb6.mono HB5.out.size))
      have HI6 := Lib.hid (HI5.out.below hb6)
      clear hb6
      go_wp2_with fail
      have hq := HI6.out.len
      rw [← HNB.out] at hq
      refine hq.mono ?_
      rintro e w' ⟨rfl, rfl⟩
      clear hq
      go_wp2_with fail
      go_ret
      exact ⟨rfl, HB6.out⟩

set_option maxRecDepth 100000 in
theorem parts_long (sp cp : Option Addr) (n cap m ccap : Nat) (w : World) (hk : KTab w) (hn0 : n ≤ 9223372036854775807) (hm0 : m ≤ 9223372036854775807) (h : 400 < n ∨ 6 < m) :
    Calls Tryd.prog 4 #[.slice sp n cap, .slice cp m ccap] w fun e w' => e = .returned (.bool true) ∧ Below w.heap.size w w' := by
  have HK := Lib.hid hk
  clear hk
  by_cases h1 : 400 < n
  · have h1' : (400 : Int) < n := by omega
    go_enter Tryd.func4, Tryd.ntmps4
    go_wp2_with (go_at_call 8; refine (first_any _ HK.out).mono ?_; rintro e w1 ⟨rfl, hb1⟩; have HB1 := Lib.hid hb1; clear hb1)
    go_ret
    exact ⟨rfl, HB1.out⟩
  · have h2 : 6 < m := by omega
    have h1' : ¬ (400 : Int) < n := by omega
    have h2' : (6 : Int) < m := by omega
    clear h
    go_enter Tryd.func4, Tryd.ntmps4
    go_wp2_with (go_at_call 8; refine (first_any _ HK.out).mono ?_; rintro e w1 ⟨rfl, hb1⟩; have HB1 := Lib.hid hb1; clear hb1)
    go_ret
    exact ⟨rfl, HB1.out⟩
end Go.Proofs.YtboepklpbedanaaDoor.Sha
