/-
  The statement on numbers in bytes and sums answers true. Conditions: the bytes and the amounts lie where the slices say.
-/
import Derived.Test.YtdgejdecahdjkaaCmpFirst
import Derived.Test.YtdgejdecahdjkaaRefPut
import Derived.Test.YtdgejdecahdjkaaRefSameB
import Derived.Test.YtdgejdecahdjkaaShaCopy
namespace Go.Proofs.Ytdgejdecahdjkaa.Sha
open Go Go.RowKit

theorem own_ren {w : World} {base n m size : Nat} {e : TypeId} {v : Value} {xs : List Value} (h : w.ownsRow base e size v n xs) (hn : n = m) : w.ownsRow base e size v m xs := by subst hn; exact h
theorem ref_step {w1 w2 w3 w4 : World} {k c : Nat} {xs ys : List UInt8} {v : Value} (h : NewB w1 w2 k c xs) (hb : Below w2.heap.size w2 w3) (ho : OwnB w2.heap.size w2.heap.size w3 w4 v ys) :
    SrcB w4 (.slice (some ⟨w1.heap.size, 0, none⟩) k c) xs ∧ SrcB w4 v ys ∧ Below w1.heap.size w1 w4 :=
  ⟨src_own (own_kept h.1 (hb.trans ho.2.1)), src_own ho.1, h.2.trans ((hb.trans ho.2.1).mono h.2.size)⟩
theorem sum_v (l : List Nat) (s : Int) (i : Bool) (v : Value) (w : World) (hs : SrcU w v l) (hl : l.length ≤ 100) (h : s = ((sumL l : Nat) : Int) ∧ i = sumIs l) :
    Calls Try.prog 6 #[v] w fun e w' => e = .returned (.tuple #[.int .u64 s, .bool i]) ∧ w = w' := by
  rw [h.1, h.2]
  exact sum_c l v w hs (by omega)
theorem rsum_v (l : List Nat) (s : Int) (i : Bool) (v : Value) (w : World) (hs : SrcU w v l) (hl : l.length ≤ 100) (h : s = ((sumL l : Nat) : Int) ∧ i = sumIs l) (hx : ∀ j, l.getD j 0 ≤ 18446744073709551615) :
    Calls Try.prog 7 #[v] w fun e w' => e = .returned (.tuple #[.int .u64 s, .bool i]) ∧ w = w' := by
  rw [h.1, h.2]
  exact sum_r l v w hs (by omega) hx

set_option maxHeartbeats 2000000 in
set_option maxRecDepth 100000 in
theorem csays_main (bs : List UInt8) (l : List Nat) (sp sq : Option Addr) (n m cap cq x : Nat) (w : World) (hs : SrcB w (.slice sp n cap) bs) (hu : SrcU w (.slice sq m cq) l) (hx : ∀ j, l.getD j 0 ≤ 18446744073709551615) (hn0 : n ≤ 9223372036854775807) (hm0 : m ≤ 9223372036854775807) :
    Calls Try.prog 3 #[.slice sp n cap, .int .u64 x, .slice sq m cq] w fun e w' => e = .returned (.bool true) ∧ Below w.heap.size w w' := by
  have HS := Lib.hid hs
  have HU := Lib.hid hu
  have HX := Lib.hid hx
  have HL := Lib.hid hs.le.1
  have HM := Lib.hid hu.len
  clear hs hu hx
  by_cases hn : n ≤ 100
  · by_cases hm : m ≤ 40
    · have c1 : ¬ (100 : Int) < (n : Int) := by omega
      have c2 : ¬ (40 : Int) < (m : Int) := by omega
      have d1 : decide ((100 : Int) < (n : Int)) = false := by simp; omega
      have d2 : decide ((40 : Int) < (m : Int)) = false := by simp; omega
      obtain ⟨s, hse⟩ : ∃ s : Int, s = ((sumL l : Nat) : Int) := ⟨_, rfl⟩
      obtain ⟨i, hie⟩ : ∃ i, i = sumIs l := ⟨_, rfl⟩
      have HE := Lib.hid (And.intro hse hie)
      clear hse hie
      obtain ⟨y, hy⟩ : ∃ y, y = x % 4294967296 := ⟨_, rfl⟩
      have hyi : (x : Int) % 4294967296 = (y : Int) := by omega
      have hy2 : y ≤ 4294967295 := by omega
      have HLN : Hid (((lenN x : Nat) : Int) = (lenN x : Nat)) := rfl
      obtain ⟨k, hk⟩ : ∃ k : Int, k = ((lenN x : Nat) : Int) := ⟨_, rfl⟩
      have HK : Hid (((lenN x : Nat) : Int) = k) := hk.symm
      clear hy hk HLN
      go_enter Try.func3, Try.ntmps3
      go_wp2_with fail
      refine (first2_any _).mono ?_
      rintro e w1 ⟨rfl, hb1⟩
      have HB1 := Lib.hid hb1
      clear hb1
      go_wp2_with fail
      refine (sum_v l s i _ _ (HU.out.below HB1.out) (by have := HM.out; omega) HE.out).mono ?_
      rintro e w' ⟨rfl, rfl⟩
      go_wp2_with fail
      refine (rsum_v l s i _ _ (HU.out.below HB1.out) (by have := HM.out; omega) HE.out HX.out).mono ?_
      rintro e w' ⟨rfl, rfl⟩
      go_wp2_with fail
      refine (put_any bs sp n cap x _ (HS.out.below HB1.out) (by omega)).mono ?_
      rintro e w2 ⟨rfl, hn⟩
      have HN := Lib.hid hn
      clear hn
      go_wp2_with fail
      refine (bytes_copy_any bs sp n cap _ ((HS.out.below HB1.out).below HN.out.2) (by omega)).mono ?_
      rintro e w3 ⟨rfl, ho, hb⟩
      have HO := Lib.hid ho
      have HB := Lib.hid hb
      clear ho hb
      go_wp2_with fail
      refine (rput_any x _ bs _ _ (by exact HB.out.size) (by have := HL.out; omega) (own_ren HO.out HL.out)).mono ?_
      rintro e w4 ⟨vw4, rfl, h4⟩
      have H4 := Lib.hid (ref_step HN.out HB.out h4)
      clear h4 HO HB HN
      go_wp2_with fail
      refine (same_bytes_t _ _ _ _ H4.out.1 H4.out.2.1 (by have := HL.out; have := lenN_bd x; simp [putL_length, leB_length]; omega)).mono ?_
      rintro e w5 ⟨rfl, hb⟩
      have HBw5 := Lib.hid (HB1.out.trans ((H4.out.2.2.trans (hb.mono H4.out.2.2.size)).mono HB1.out.size))
      clear hb H4
      go_wp2_with fail
      refine (len_is x k _ HK.out).mono ?_
      rintro e w' ⟨rfl, rfl⟩
      go_wp2_with fail
      refine (rlen_c x k _ HK.out).mono ?_
      rintro e w' ⟨rfl, rfl⟩
      go_wp2_with fail
      refine (four_any bs sp n cap y _ (HS.out.below HBw5.out) (by omega) hy2).mono ?_
      rintro e w6 ⟨rfl, hn⟩
      have HN := Lib.hid hn
      clear hn
      go_wp2_with fail
      refine (bytes_copy_any bs sp n cap _ ((HS.out.below HBw5.out).below HN.out.2) (by omega)).mono ?_
      rintro e w7 ⟨rfl, ho, hb⟩
      have HO := Lib.hid ho
      have HB := Lib.hid hb
      clear ho hb
      go_wp2_with fail
      refine (rfour_any y _ bs _ _ hy2 (by exact HB.out.size) (by have := HL.out; omega) (own_ren HO.out HL.out)).mono ?_
      rintro e w8 ⟨vw8, rfl, h4⟩
      have H4 := Lib.hid (ref_step HN.out HB.out h4)
      clear h4 HO HB HN
      go_wp2_with fail
      refine (same_bytes_t _ _ _ _ H4.out.1 H4.out.2.1 (by have := HL.out; have := lenN_bd x; simp [putL_length, leB_length]; omega)).mono ?_
      rintro e w9 ⟨rfl, hb⟩
      have HBw9 := Lib.hid (HBw5.out.trans ((H4.out.2.2.trans (hb.mono H4.out.2.2.size)).mono HBw5.out.size))
      clear hb H4
      go_wp2_with fail
      refine (eight_any bs sp n cap x _ (HS.out.below HBw9.out) (by omega)).mono ?_
      rintro e wa ⟨rfl, hn⟩
      have HN := Lib.hid hn
      clear hn
      go_wp2_with fail
      refine (bytes_copy_any bs sp n cap _ ((HS.out.below HBw9.out).below HN.out.2) (by omega)).mono ?_
      rintro e wb ⟨rfl, ho, hb⟩
      have HO := Lib.hid ho
      have HB := Lib.hid hb
      clear ho hb
      go_wp2_with fail
      refine (reight_any x _ bs _ _ (by exact HB.out.size) (by have := HL.out; omega) (own_ren HO.out HL.out)).mono ?_
      rintro e wc ⟨vwc, rfl, h4⟩
      have H4 := Lib.hid (ref_step HN.out HB.out h4)
      clear h4 HO HB HN
      go_wp2_with fail
      refine (same_bytes_t _ _ _ _ H4.out.1 H4.out.2.1 (by have := HL.out; have := lenN_bd x; simp [putL_length, leB_length]; omega)).mono ?_
      rintro e wd ⟨rfl, hb⟩
      have HBwd := Lib.hid (HBw9.out.trans ((H4.out.2.2.trans (hb.mono H4.out.2.2.size)).mono HBw9.out.size))
      clear hb H4
      go_wp2_with fail
      go_ret
      exact ⟨rfl, HBwd.out⟩
    · have c1 : ¬ (100 : Int) < (n : Int) := by omega
      have c2 : (40 : Int) < (m : Int) := by omega
      have d1 : decide ((100 : Int) < (n : Int)) = false := by simp; omega
      have d2 : decide ((40 : Int) < (m : Int)) = true := by simp; omega
      go_enter Try.func3, Try.ntmps3
      go_wp2_with fail
      refine (first2_any _).mono ?_
      rintro e w1 ⟨rfl, hb1⟩
      have HB1 := Lib.hid hb1
      clear hb1
      go_wp2_with fail
      go_ret
      exact ⟨rfl, HB1.out⟩
  · have c1 : (100 : Int) < (n : Int) := by omega
    have d1 : decide ((100 : Int) < (n : Int)) = true := by simp; omega
    go_enter Try.func3, Try.ntmps3
    go_wp2_with fail
    refine (first2_any _).mono ?_
    rintro e w1 ⟨rfl, hb1⟩
    have HB1 := Lib.hid hb1
    clear hb1
    go_wp2_with fail
    go_ret
    exact ⟨rfl, HB1.out⟩
end Go.Proofs.Ytdgejdecahdjkaa.Sha
