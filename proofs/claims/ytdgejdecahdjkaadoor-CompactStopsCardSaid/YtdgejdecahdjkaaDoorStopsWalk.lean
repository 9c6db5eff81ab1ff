/-
  The statement on what a Reader does behind its first error answers true. Conditions: the bytes lie where the slice says; the errors are there, each its own.
-/
import Derived.Test.YtdgejdecahdjkaaDoorCmpFirst
import Derived.Test.YtdgejdecahdjkaaDoorRefNumb
import Derived.Test.YtdgejdecahdjkaaDoorRdrState
namespace Go.Proofs.YtdgejdecahdjkaaDoor.Sha
open Go Go.RowKit

set_option maxHeartbeats 2000000 in
set_option maxRecDepth 100000 in
theorem stops_main (E : Nat → Addr) (bs : List UInt8) (sp : Option Addr) (n cap : Nat) (x : Int) (w : World) (hE : Errs w E) (hs : SrcB w (.slice sp n cap) bs) (hn0 : n ≤ 9223372036854775807) (hx : -9223372036854775808 ≤ x ∧ x ≤ 9223372036854775807) :
    Calls Tryd.prog 6 #[.slice sp n cap, .int .i64 x] w fun e w' => e = .returned (.bool true) ∧ Below w.heap.size w w' := by
  have HE := Lib.hid hE
  have HER := Lib.hid hE.er
  have HS := Lib.hid hs
  have HN := Lib.hid hs.le.1
  clear hE hs
  by_cases hn : n ≤ 30
  · have c1 : ¬ (30 : Int) < (n : Int) := by omega
    obtain ⟨j, hj, hj2⟩ := numb_nat x 50 (by omega)
    have hnum := fun W => numb_any x 50 (by omega) (by omega) hx W
    have hj' : numb x 50 = (j : Int) := hj
    rw [hj'] at hnum
    have HNUM := Lib.hid hnum
    obtain ⟨k, hk⟩ : ∃ k, k = n + 1 + j := ⟨_, rfl⟩
    have HK : Hid (k = ((n : Int) + 1 + (j : Int)).toNat) := by show _ = _; omega
    have T0 : Hid (takeL k bs 0 = ([], bs, 1)) := takeL_end _ _ (by have := HN.out; omega)
    have T1 : Hid (∀ q, takeL q bs 1 = ([], bs, 1)) := fun q => takeL_err q bs 1 (by omega)
    have T2 : Hid (numL 5 bs 1 = (0, bs, 1)) := numL_err 5 bs 1 (by omega)
    have HNI : Hid ((((bs.length : Nat) : Int)) = (n : Int)) := by show _ = _; rw [HN.out]
    have HL70 : Hid (bs.length ≤ 70368744177664) := by show _ ≤ _; have := HN.out; omega
    clear hj hj' hnum hk hx
    go_enter Tryd.func6, Tryd.ntmps6
    go_wp2_with fail
    refine (first2_any _).mono ?_
    rintro e w1 ⟨rfl, hb1⟩
    have HB1 := Lib.hid hb1
    clear hb1
    go_wp2_with fail
    refine (read_any E bs _ _ (HS.out.below HB1.out) HL70.out).mono ?_
    rintro e w2 ⟨m, r, rfl, h2⟩
    have R2 := Lib.hid (h2.rs HB1.out)
    clear h2
    go_wp2_with fail
    refine (HNUM.out _).mono ?_
    rintro e w' ⟨rfl, rfl⟩
    go_wp2_with fail
    refine (bytes_is E m ((n : Int) + 1 + (j : Int)) k HK.out bs [] bs 0 1 r _ (R2.out.er HER.out) R2.out.1 T0.out (by omega) HL70.out).mono ?_
    rintro e w3 ⟨v3, rfl, o3, i3, g3⟩
    obtain ⟨sp3, n3, cap3, rfl, hn3, -⟩ := (src_own o3).shape'
    have hn3' : n3 = 0 := hn3
    subst hn3'
    have R3 := Lib.hid (R2.out.step i3 g3)
    clear o3 i3 g3 R2 hn3
    go_wp2_with fail
    refine (err_any E m bs 1 r _ R3.out.1).mono ?_
    rintro e w' ⟨rfl, rfl⟩
    go_wp2_with fail
    refine (left_any E m bs 1 r _ R3.out.1).mono ?_
    rintro e w' ⟨rfl, rfl⟩
    rw [HNI.out]
    go_wp2_with fail
    refine (hash_is E m bs [] bs 1 1 r _ (R3.out.er HER.out) R3.out.1 (T1.out 32)).mono ?_
    rintro e w4 ⟨rfl, i4, g4⟩
    have R4 := Lib.hid (R3.out.step i4 g4)
    clear i4 g4 R3
    go_upto_region 11 with ((with_reducible show wpList _ _ _ _ _ _); refine wpList_store_row rfl 48 (.tmp 10) (.tmp 34) rfl w4.heap.size ((padH []).map bV).toArray rfl rfl 48 _ (heap_alloc_new _ _) (by kernel_rfl) rfl (bV_one _) ?_; go_frame)
    obtain ⟨f1, f2, f3, f4⟩ := fill_setup (Below.refl w4.heap.size w4) (List.replicate 32 (bV 0)).toArray ((padH []).map bV).toArray 48
    obtain ⟨g, hg⟩ : ∃ g, g = w4.heap.size := ⟨_, rfl⟩
    have hrg : r < g := by rw [hg]; exact R4.out.1.lt
    generalize hw5 : World.setRow _ _ _ = w5
    have e5 : ((w4.alloc (.cells (List.replicate 32 (bV 0)).toArray 48)).setRow w4.heap.size ((padH []).map bV).toArray) = w5 := hw5
    rw [e5] at f2 f4
    rw [← hg] at f2 ⊢
    have R5 := Lib.hid (R4.out.keep f4)
    have F5 := Lib.hid f2
    clear hw5 e5 f1 f2 f3 f4 R4 hg
    go_wp2_with fail
    refine (bytes_is E m (n : Int) n (by omega) bs [] bs 1 1 r _ (R5.out.er HER.out) R5.out.1 (T1.out n) (by omega) HL70.out).mono ?_
    rintro e w6 ⟨v6, rfl, o6, i6, g6⟩
    obtain ⟨sp6, n6, cap6, rfl, hn6, -⟩ := (src_own o6).shape'
    have hn6' : n6 = 0 := hn6
    subst hn6'
    have R6 := Lib.hid (R5.out.step i6 g6)
    have F6 := Lib.hid (row_grown F5.out g6 hrg)
    clear o6 i6 g6 R5 F5 hn6
    go_wp2_with fail
    refine (is_any E 1 101 true rfl _ (HE.out.below R6.out.2.1) (by omega)).mono ?_
    rintro e w7 ⟨rfl, hb⟩
    have R7 := Lib.hid (R6.out.keep hb)
    have F7 := Lib.hid (row_below F6.out hb)
    clear hb R6 F6
    go_wp2_with fail
    refine (num_none 5 (by omega) (R7.out.er HER.out) R7.out.1).mono ?_
    rintro e w8 ⟨rfl, i8, g8⟩
    have R8 := Lib.hid (R7.out.step i8 g8)
    have F8 := Lib.hid (row_grown F7.out g8 hrg)
    clear i8 g8 R7 F7
    go_wp2_with fail
    refine (four_none (by omega) (R8.out.er HER.out) R8.out.1).mono ?_
    rintro e w9 ⟨rfl, i9, g9⟩
    have R9 := Lib.hid (R8.out.step i9 g9)
    have F9 := Lib.hid (row_grown F8.out g9 hrg)
    clear i9 g9 R8 F8
    go_wp2_with fail
    refine (eight_none (by omega) (R9.out.er HER.out) R9.out.1).mono ?_
    rintro e wa ⟨rfl, ia, ga⟩
    have RA := Lib.hid (R9.out.step ia ga)
    have fa := row_grown F9.out ga hrg
    have k0 : wa.cell? ⟨g, 0, none⟩ = some (.int .u8 0) := by rw [cell_of_row _ _ _ _ _ _ fa]; rfl
    have k31 : wa.cell? ⟨g, 31, none⟩ = some (.int .u8 0) := by rw [cell_of_row _ _ _ _ _ _ fa]; rfl
    clear ia ga R9 F9 fa
    go_wp2_with fail
    refine (err_any E m bs 1 r _ RA.out.1).mono ?_
    rintro e w' ⟨rfl, rfl⟩
    clear k0 k31
    go_wp2_with fail
    refine (is_any E 1 101 true rfl _ (HE.out.below RA.out.2.1) (by omega)).mono ?_
    rintro e wb ⟨rfl, hb⟩
    have RB := Lib.hid (RA.out.keep hb)
    clear hb RA
    go_wp2_with fail
    refine (left_any E m bs 1 r _ RB.out.1).mono ?_
    rintro e w' ⟨rfl, rfl⟩
    rw [HNI.out]
    go_wp2_with fail
    go_ret
    exact ⟨rfl, RB.out.2.1⟩
  · have c1 : (30 : Int) < (n : Int) := by omega
    go_enter Tryd.func6, Tryd.ntmps6
    go_wp2_with fail
    refine (first2_any _).mono ?_
    rintro e w1 ⟨rfl, hb1⟩
    have HB1 := Lib.hid hb1
    clear hb1
    go_wp2_with fail
    go_ret
    exact ⟨rfl, HB1.out⟩
end Go.Proofs.YtdgejdecahdjkaaDoor.Sha
