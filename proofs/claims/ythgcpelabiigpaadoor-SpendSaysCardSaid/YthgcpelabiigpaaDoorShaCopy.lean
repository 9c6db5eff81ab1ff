/-
  The statements' own Bytes copies bytes into new memory. Conditions: at least one byte, fewer than 2^46; the bytes lie where the slice says.
-/
import Derived.LoopN
import Derived.Test.YthgcpelabiigpaaDoorBase
namespace Go.Proofs.YthgcpelabiigpaaDoor.Sha
open Go Go.RowKit

def CpInv (bs : List UInt8) (n : Nat) (w : World) (v i : Value) (wr : World) : Prop :=
  ∃ k : Nat, k ≤ n ∧ i = .int .i64 k ∧ v = .slice (some ⟨w.heap.size, 0, none⟩) k n ∧ wr.ownsRow w.heap.size 5 1 v k ((bs.take k).map bV) ∧ Below w.heap.size w wr
set_option maxHeartbeats 400000 in
set_option maxRecDepth 100000 in
theorem bytes_copy (bs : List UInt8) (sp : Option Addr) (n cap : Nat) (w : World) (hs : SrcB w (.slice sp n cap) bs) (hn0 : 0 < n) (hn : n ≤ 70368744177664) :
    Calls Tryd.prog 19 #[.slice sp n cap] w fun e w' => e = .returned (.slice (some ⟨w.heap.size, 0, none⟩) n n) ∧ w'.ownsRow w.heap.size 5 1 (.slice (some ⟨w.heap.size, 0, none⟩) n n) n (bs.map bV) ∧ Below w.heap.size w w' := by
  obtain ⟨i0, hi, hz0, hz1, hz2⟩ := info_parts info_u8
  have hnb := hs.le.1
  rcases hs with ⟨sp', cap', hv, rfl⟩ | ⟨_, bb, off, cap', hv, hc, hcell⟩
  · cases hv; omega
  cases hv
  obtain ⟨n, hn1⟩ : ∃ n, n = bs.length := ⟨_, rfl⟩
  have hbb : bb < w.heap.size := SrcB.block hn0 hcell
  rw [← hn1] at hc hcell hn0 hn ⊢
  have HN := Lib.hid hn1
  have HCELL := Lib.hid hcell
  clear hn1 hcell hnb
  go_enter Tryd.func19, Tryd.ntmps19
  go_wp2_with (at_make; refine wpList_make_own _ rfl _ _ 22 rfl w.heap.size 5 i0 (.int .u8 0) 1 Tryd.underlying22 hi hz0 hz1 _ _ _ n rfl rfl rfl (by rw [hz2]; omega) (by unfold maxLen; omega) (Nat.le_refl _) ?_; intro w2 hown hgrow; have HO := Lib.hid hown; have HG := Lib.hid hgrow; clear hown hgrow; go_frame)
  have hb2 : Below w.heap.size w w2 := (Below.refl _ _).grown HG.out (Nat.le_refl _) (fun k hk => by cases hk)
  have HB2 := Lib.hid hb2
  clear hb2
  go_loopw [3, 4] (fun v i wr => CpInv bs n w v i wr) (fun _ i _ => n - (intOf i).toNat)
  case atStart => exact ⟨0, by omega, rfl, rfl, HO.out, HB2.out⟩
  case round =>
    clear HO HG HB2
    obtain ⟨k, hk, rfl, rfl, hown, hb⟩ := hrel
    have HO := Lib.hid hown
    have HB := Lib.hid hb
    clear hown hb
    by_cases hlt : k < n
    · obtain ⟨c, hc2⟩ : ∃ c, c = bs.getD k 0 := ⟨_, rfl⟩
      have ck : wr.cell? ⟨bb, off + k, none⟩ = some (.int .u8 (bv c)) := by rw [HB.out.cell (p := ⟨bb, off + k, none⟩) hbb, hc2]; exact HCELL.out k hlt
      have HT : Hid (bs.take (k + 1) = bs.take k ++ [c]) := by
        have hkx : k < bs.length := by have := HN.out; omega
        have e : bs[k] = c := by rw [hc2]; simp [List.getD, List.getElem?_eq_getElem hkx]
        show _ = _
        rw [List.take_succ_eq_append_getElem hkx, e]
      clear hc2
      go_wp2_with (at_builtin; refine wpList_append_fits _ rfl _ _ 22 rfl w.heap.size 5 i0 1 Tryd.underlying22 hi hz1 w.heap.size k n _ rfl (HO.out.alloc _) ⟨wr.heap.size, 0, none⟩ 1 1 [.int .u8 (bv c)] rfl rfl (cell_one_new _ _ _) (one_u8 _) (by omega) ?_; intro w3 hown2 hgrow; have hown3 := Lib.hid hown2; have hgrow3 := Lib.hid hgrow; clear hown2 hgrow; go_frame)
      go_roundw
      case rel =>
        refine ⟨k + 1, by omega, by go_num, rfl, ?_, ?_⟩
        · rw [HT.out, List.map_append]
          exact hown3.out
        · have h1 : w.heap.size ≤ wr.heap.size := HB.out.size
          exact (HB.out.alloc h1 _).grown hgrow3.out (by simp; omega) (fun j hj => by cases hj; exact Nat.le_refl _)
      case measure => simp [intOf]; omega
    · have hkn : k = n := by omega
      have hge : ¬ (k : Int) < (n : Int) := by omega
      have HF : Hid (wr.ownsRow w.heap.size 5 1 (.slice (some ⟨w.heap.size, 0, none⟩) n n) n (bs.map bV)) := by
        have h := HO.out
        rw [hkn, List.take_of_length_le (by have := HN.out; omega)] at h
        exact h
      have HKN := Lib.hid hkn
      clear hkn
      go_wp2_with fail
      go_ret
      exact ⟨by rw [HKN.out]; rfl, HF.out, HB.out⟩
set_option maxHeartbeats 400000 in
set_option maxRecDepth 100000 in
theorem bytes_copy0 (sp : Option Addr) (cap : Nat) (w : World) :
    Calls Tryd.prog 19 #[.slice sp 0 cap] w fun e w' => e = .returned (.slice (some ⟨w.heap.size, 0, none⟩) 0 0) ∧ w'.ownsRow w.heap.size 5 1 (.slice (some ⟨w.heap.size, 0, none⟩) 0 0) 0 [] ∧ Below w.heap.size w w' := by
  obtain ⟨i0, hi, hz0, hz1, hz2⟩ := info_parts info_u8
  go_enter Tryd.func19, Tryd.ntmps19
  go_wp2_with (at_make; refine wpList_make_own _ rfl _ _ 22 rfl w.heap.size 5 i0 (.int .u8 0) 1 Tryd.underlying22 hi hz0 hz1 _ _ _ 0 rfl rfl rfl (by rw [hz2]; omega) (by unfold maxLen; omega) (Nat.le_refl _) ?_; intro w2 hown hgrow; have HO := Lib.hid hown; have HG := Lib.hid hgrow; clear hown hgrow; go_frame)
  have hb2 : Below w.heap.size w w2 := (Below.refl _ _).grown HG.out (Nat.le_refl _) (fun k hk => by cases hk)
  have HB2 := Lib.hid hb2
  clear hb2
  refine wp_loop_rounds 1 ?_
  rw [rounds_succ]
  go_wp2_with fail
  go_ret
  exact ⟨rfl, HO.out, HB2.out⟩
/-- A copy of any bytes. -/
theorem bytes_copy_any (bs : List UInt8) (sp : Option Addr) (n cap : Nat) (w : World) (hs : SrcB w (.slice sp n cap) bs) (hn : n ≤ 70368744177664) :
    Calls Tryd.prog 19 #[.slice sp n cap] w fun e w' => e = .returned (.slice (some ⟨w.heap.size, 0, none⟩) n n) ∧ w'.ownsRow w.heap.size 5 1 (.slice (some ⟨w.heap.size, 0, none⟩) n n) n (bs.map bV) ∧ Below w.heap.size w w' := by
  by_cases h0 : 0 < n
  · exact bytes_copy bs sp n cap w hs h0 hn
  · obtain rfl : n = 0 := by omega
    have hb := hs.le.1
    have hnil : bs = [] := List.eq_nil_of_length_eq_zero hb.symm
    subst hnil
    exact bytes_copy0 sp cap w
end Go.Proofs.YthgcpelabiigpaaDoor.Sha
