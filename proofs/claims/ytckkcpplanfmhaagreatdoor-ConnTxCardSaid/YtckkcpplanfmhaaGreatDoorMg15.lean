/-
  Texts of this proof joined into one file: MkRowRef, MkRootRef, BlRefStart. What each holds, and under which conditions, its own first sentence tells.
-/
import Derived.IntWalk
import Derived.Test.YtckkcpplanfmhaaGreatDoorMg11
import Derived.Test.YtckkcpplanfmhaaGreatDoorMg14
import Derived.Test.YtckkcpplanfmhaaGreatDoorMg04
import Derived.Test.YtckkcpplanfmhaaGreatDoorMg10
/-
  The row above a row of digests: package merkle's, and the statements' own. New memory; nothing that was there turns. Conditions: the digests lie where the slice says; for package merkle's the table is there.
-/
namespace Go.Proofs.YtckkcpplanfmhaaGreatDoor.Sha
open Go Go.RowKit
set_option maxHeartbeats 4000000 in
set_option maxRecDepth 100000 in
theorem row_ref (l : List (List UInt8)) (sp : Option Addr) (n cap : Nat) (w : World) (hl : HsAt w (.slice sp n cap) l) (hn : n ≤ 1048576) :
    Calls Tryz.prog 82 #[.slice sp n cap] w fun e w' => ∃ v, e = .returned v ∧ HsOwn w.heap.size w' v (rowL prH l) ∧ Below w.heap.size w w' := by
  obtain ⟨i0, hi, hz0, hz1, hz2⟩ := info_parts info_hash
  have hln := hl.len
  have hok := hl.1
  have HOK := Lib.hid hok
  have HLN := Lib.hid hln.1
  have HL := Lib.hid hl
  have LROW := Lib.hid (rowL_length prH l)
  obtain ⟨m, hm⟩ : ∃ m, m = (n + 1) / 2 := ⟨_, rfl⟩
  have hmb : m ≤ 1048576 := by omega
  have hm2 : 2 * m = n ∨ 2 * m = n + 1 := by omega

  have HMM := Lib.hid hm
  clear hl hln hok hm
  go_enter Tryz.func82, Tryz.ntmps82
  have HB0 := Lib.hid (Below.refl w.heap.size w)
  have HST : Hid (HsOwn w.heap.size w (.slice none 0 0) ((rowL prH l).take 0)) := HsOwn.nil _ _
  go_wp2_with fail
  go_loopw [3, 4] (fun vs vi wr => RaInv l n w vs vi wr) (fun _ vi _ => n + 1 - (intOf vi).toNat)
  case atStart => exact ⟨0, 0, _, rfl, by omega, by omega, rfl, HST.out, HB0.out⟩
  case round =>
    clear HST HB0
    obtain ⟨k, j, vb, rfl, hj1, hj, rfl, ho, hb⟩ := hrel
    have HO := Lib.hid ho
    have HB := Lib.hid hb
    have HJ := Lib.hid hj
    clear ho hb
    by_cases hlt : j < n
    · obtain ⟨b, o, rfl, hbw, hg⟩ := HL.out.get (by omega)
      obtain ⟨p, hp⟩ : ∃ p, p = otherN j n := ⟨_, rfl⟩
      have hpn : p < n := by rw [hp]; exact otherN_lt hlt
      obtain ⟨x, hx⟩ : ∃ x, x = l.getD j [] := ⟨_, rfl⟩
      obtain ⟨y, hy⟩ : ∃ y, y = l.getD p [] := ⟨_, rfl⟩
      have HX := Lib.hid (hg j hlt)
      have HY := Lib.hid (hg p hpn)
      rw [← hx] at HX
      rw [← hy] at HY
      have lx : x.length = 32 := by rw [hx]; exact HOK.out.get (by have := HLN.out; omega)
      have ly : y.length = 32 := by rw [hy]; exact HOK.out.get (by have := HLN.out; omega)
      have LX' := Lib.hid lx
      have LY' := Lib.hid ly
      have LX := Lib.hid (show x.length = 32 from lx)
      have LY := Lib.hid (show y.length = 32 from ly)
      have LP : Hid (((prH x y).map bV).length = 32) := by show _ = _; rw [List.length_map, prH_length]
      have lk : ((rowL prH l).take k).length ≤ 1048576 := by rw [List.length_take]; omega
      have LK := Lib.hid lk
      have ht : (rowL prH l).take (k + 1) = (rowL prH l).take k ++ [prH x y] := by
        have hkl : k < (rowL prH l).length := by rw [LROW.out]; have := HLN.out; omega
        have e := rowL_get prH [] l k (by have := HLN.out; omega)
        rw [List.getD_eq_getElem?_getD, List.getElem?_eq_getElem hkl] at e
        simp only [Option.getD_some] at e
        have e2 : otherN j n = if j + 1 < l.length then j + 1 else j := by
          unfold otherN
          rw [if_neg (show ¬ j % 2 = 1 by omega), ← HLN.out]
        rw [List.take_succ_eq_append_getElem hkl, e, hx, hy, hp, ← hj, e2]
      have HT := Lib.hid ht
      have HP := Lib.hid hp
      have p0 : 0 ≤ (j : Int) := by omega
      have q0 : (j : Int) < (n : Int) := by omega
      have p1 : 0 ≤ (p : Int) := by omega
      have q1 : (p : Int) < (n : Int) := by omega
      have wj : IntKind.i64.wrap ((j : Int) + 2) = (j : Int) + 2 := IntWalk.i64_in _ (by omega)
      have wj1 : IntKind.i64.wrap ((j : Int) + 1) = (j : Int) + 1 := IntWalk.i64_in _ (by omega)
      have wn1 : IntKind.i64.wrap ((n : Int) - 1) = (n : Int) - 1 := IntWalk.i64_in _ (by omega)
      have HM : Hid (min ((j : Int) + 1) ((n : Int) - 1) = (p : Int)) := by
        show _ = _
        rw [hp]
        unfold otherN
        rw [if_neg (show ¬ j % 2 = 1 by omega)]
        by_cases h : j + 1 < n
        · rw [if_pos h]; omega
        · rw [if_neg h]; omega
      clear hg hx hy hp hj lx ly ht lk
      go_wp2_with fail
      refine wp_region_held_drew (S := (fun w' => Below w.heap.size w w')) (by kernel_rfl) (Below.drew HB.out) (fun hHeld => ?_)
      have HO3 := Lib.hid (HO.out.keep (Below.drew (Below.refl wr.heap.size wr)))
      clear HO HB
      refine held_take (i := 0) (v := vb) rfl (by kernel_rfl) (by kernel_rfl) (by kernel_rfl) (fun _ _ _ h => h) (Or.inl ⟨by rfl, fun w' _ => by kernel_rfl⟩) hHeld ?_
      go_frame
      refine held_take (i := 1) (v := (.slice (some ⟨b, o, none⟩) n cap)) rfl (by kernel_rfl) (by kernel_rfl) (by kernel_rfl) (fun _ _ _ h => h) (Or.inl ⟨by rfl, fun w' _ => by kernel_rfl⟩) hHeld ?_
      go_frame
      refine held_take (i := 2) (v := (.int .i64 (j : Int))) rfl (by kernel_rfl) (by kernel_rfl) (by kernel_rfl) (fun _ _ _ h => h) (Or.inl ⟨by rfl, fun w' _ => by kernel_rfl⟩) hHeld ?_
      go_frame
      refine held_take (i := 3) (v := (.pointer (some ⟨b, o + j * 32, none⟩))) rfl (by kernel_rfl) (by kernel_rfl) (by kernel_rfl) (fun _ _ _ h => h) (Or.inl ⟨by rfl, fun w' _ => by go_simp⟩) hHeld ?_
      go_frame
      refine held_take (i := 4) (v := (.agg (x.map bV).toArray)) rfl (by kernel_rfl) (by kernel_rfl) (by kernel_rfl) (fun _ _ _ h => h) (yieldsIf_load_mid (by rfl) 44 (.tmp 14) rfl b (o + j * 32) rfl (x.map bV) _ (fun w' hw' => range_below HX.out hw') Tryz.underlying44 rfl (by rw [List.length_map, LX.out]; kernel_rfl)) hHeld ?_
      go_frame
      refine held_take (i := 5) (v := (.slice (some ⟨b, o, none⟩) n cap)) rfl (by kernel_rfl) (by kernel_rfl) (by kernel_rfl) (fun _ _ _ h => h) (Or.inl ⟨by rfl, fun w' _ => by kernel_rfl⟩) hHeld ?_
      go_frame
      refine held_take (i := 6) (v := (.int .i64 (j : Int))) rfl (by kernel_rfl) (by kernel_rfl) (by kernel_rfl) (fun _ _ _ h => h) (Or.inl ⟨by rfl, fun w' _ => by kernel_rfl⟩) hHeld ?_
      go_frame
      refine held_take (i := 7) (v := (.int .i64 ((j : Int) + 1))) rfl (by kernel_rfl) (by kernel_rfl) (by kernel_rfl) (fun _ _ _ h => h) (Or.inl ⟨by rfl, fun w' _ => by go_simp⟩) hHeld ?_
      go_frame
      refine held_take (i := 8) (v := (.slice (some ⟨b, o, none⟩) n cap)) rfl (by kernel_rfl) (by kernel_rfl) (by kernel_rfl) (fun _ _ _ h => h) (Or.inl ⟨by rfl, fun w' _ => by kernel_rfl⟩) hHeld ?_
      go_frame
      refine held_take (i := 9) (v := (.int .i64 (n : Int))) rfl (by kernel_rfl) (by kernel_rfl) (by kernel_rfl) (fun _ _ _ h => h) (Or.inl ⟨by rfl, fun w' _ => by kernel_rfl⟩) hHeld ?_
      go_frame
      refine held_take (i := 10) (v := (.int .i64 ((n : Int) - 1))) rfl (by kernel_rfl) (by kernel_rfl) (by kernel_rfl) (fun _ _ _ h => h) (Or.inl ⟨by rfl, fun w' _ => by go_simp⟩) hHeld ?_
      go_frame
      refine held_take (i := 11) (v := (.int .i64 (p : Int))) rfl (by kernel_rfl) (by kernel_rfl) (by kernel_rfl) (fun _ _ _ h => h) (Or.inl ⟨by rfl, fun w' _ => by go_simp; rw [HM.out]⟩) hHeld ?_
      go_frame
      refine held_take (i := 12) (v := (.pointer (some ⟨b, o + p * 32, none⟩))) rfl (by kernel_rfl) (by kernel_rfl) (by kernel_rfl) (fun _ _ _ h => h) (Or.inl ⟨by rfl, fun w' _ => by go_simp⟩) hHeld ?_
      go_frame
      refine held_take (i := 13) (v := (.agg (y.map bV).toArray)) rfl (by kernel_rfl) (by kernel_rfl) (by kernel_rfl) (fun _ _ _ h => h) (yieldsIf_load_mid (by rfl) 44 (.tmp 23) rfl b (o + p * 32) rfl (y.map bV) _ (fun w' hw' => range_below HY.out hw') Tryz.underlying44 rfl (by rw [List.length_map, LY.out]; kernel_rfl)) hHeld ?_
      go_frame
      refine wpAnyH_ready (rs := [14]) (by kernel_rfl) (by simp) (held_cons rfl (fun K hK => ?_) AllReadyH.nil)
      go_simp
      refine (pair_any x y LX'.out LY'.out _).mono ?_
      rintro e w4 ⟨rfl, bb⟩
      have HO4 := Lib.hid (HO3.out.keep bb)
      have hw4 := hHeld.trans (bb.mono hHeld.size)
      clear bb hHeld
      go_wp2_with fail
      refine hK.out _ _ hw4 (fun hHeld => ?_)
      clear hK K hw4
      refine wpAnyH_ready (rs := [15]) (by kernel_rfl) (by simp) (held_cons rfl (fun K hK => ?_) AllReadyH.nil)
      rw [if_pos (by rfl)]
      refine wp_slice_one 120 44 (.tmp 25) rfl ((prH x y).map bV) rfl Tryz.underlying120 i0 _ hi hz0 (by rw [hz1, LP.out]) (by rw [LP.out]; omega) (by rw [LP.out]; omega) ?_
      have nf := heap_alloc_new w4 (.cells ((prH x y).map bV).toArray 44 (0, 0))
      have bb := (Below.refl w4.heap.size w4).alloc (Nat.le_refl _) (.cells ((prH x y).map bV).toArray 44 (0, 0))
      obtain ⟨gn, hgn⟩ : ∃ gn, gn = w4.heap.size := ⟨_, rfl⟩
      generalize hw5 : World.alloc _ _ = w5
      have e5 : w4.alloc (.cells ((prH x y).map bV).toArray 44 (0, 0)) = w5 := hw5
      rw [e5] at nf bb
      rw [← hgn] at nf ⊢
      have NF := Lib.hid nf
      have HO5 := Lib.hid (HO4.out.keep bb)
      have hb5 := hHeld.trans (bb.mono hHeld.size)
      clear nf bb hw5 e5 hgn hHeld
      go_frame
      refine hK.out _ _ hb5 (fun hHeld => ?_)
      clear hK K hb5
      refine wpAnyH_ready (rs := [16]) (by kernel_rfl) (by simp) (held_cons rfl (fun K hK => ?_) AllReadyH.nil)
      rw [if_pos (by rfl)]
      refine wp_append_row w5 (.tmp 11) (.tmp 26) 120 rfl w.heap.size 44 i0 (.agg (List.replicate 32 (bV 0)).toArray) 32 32 Tryz.underlying120 hi hz0 hz1 hz2 (by kernel_rfl) (by decide) vb _ (hsL ((rowL prH l).take k)) rfl HO5.out.1 ⟨gn, 0, none⟩ 1 1 ((prH x y).map bV) rfl (by rw [LP.out]) (hs_one NF.out) (bV_one' _) (by have := LK.out; unfold maxLen; omega) (by have := LK.out; omega) hHeld.size ?_
      intro v6 w6 q1 q2 _
      have HO6 := Lib.hid (HsOwn.push (base := w.heap.size) HO5.out.2 (prH_length x y) q1)
      have hb6 := own_grown hHeld (Nat.le_refl _) hHeld.size HO5.out.1 q2
      clear q1 q2 hHeld
      go_frame
      refine hK.out _ _ hb6 (fun hHeld => ?_)
      clear hK K hb6
      refine held_take (i := 17) (v := v6) rfl (by kernel_rfl) (by kernel_rfl) (by kernel_rfl) (fun _ _ _ h => h) (Or.inl ⟨by rfl, fun w' _ => by kernel_rfl⟩) hHeld ?_
      go_frame
      refine wpAnyH_done (by kernel_rfl) ?_ _
      have HB6 := Lib.hid hHeld
      clear hHeld
      go_wp2_with fail
      go_roundw
      case rel =>
        refine ⟨k + 1, j + 2, _, rfl, by omega, by have := HJ.out; omega, by go_num, ?_, HB6.out⟩
        rw [HT.out]
        exact HO6.out
      case measure => simp [intOf]; omega
    · have HF : Hid (HsOwn w.heap.size wr vb (rowL prH l)) := by
        have h := HO.out
        rw [List.take_of_length_le (by rw [LROW.out]; have := HLN.out; omega)] at h
        exact h
      have hge : ¬ (j : Int) < (n : Int) := by omega
      clear HO hj
      go_wp2_with fail
      go_ret
      exact ⟨_, rfl, HF.out, HB.out⟩
end Go.Proofs.YtckkcpplanfmhaaGreatDoor.Sha

/-
  The statements' own Root answers the root. Nothing that was there turns. Conditions: the digests lie where the slice says; at most 2^20 of them.
-/
namespace Go.Proofs.YtckkcpplanfmhaaGreatDoor.Sha
open Go Go.RowKit
def rootRInv (R : List UInt8) (w : World) (vl : Value) (wr : World) : Prop :=
  ∃ l' : List (List UInt8), HsAt wr vl l' ∧ 1 ≤ l'.length ∧ l'.length ≤ 1048576 ∧ rootL prH zM l' = R ∧ Below w.heap.size w wr ∧ wr.heap[w.heap.size]? = some (.cells (List.replicate 32 (bV 0)).toArray 44 (0, 0))
set_option maxHeartbeats 2000000 in
set_option maxRecDepth 100000 in
theorem rootR_any (l : List (List UInt8)) (sp : Option Addr) (n cap : Nat) (w : World) (hl : HsAt w (.slice sp n cap) l) (hn : n ≤ 1048576) :
    Calls Tryz.prog 48 #[.slice sp n cap] w fun e w' => e = .returned (.agg ((rootL prH zM l).map bV).toArray) ∧ Below w.heap.size w w' := by
  have hlen := rootL_len _ l rfl hl.1
  have hln := hl.len.1
  have h0r : n = 0 → rootL prH zM l = zM := fun h => by
    rw [rootL_one prH zM (by omega), List.getD_eq_getElem?_getD, List.getElem?_eq_none (by omega)]
    rfl
  obtain ⟨R, hR⟩ : ∃ R, R = rootL prH zM l := ⟨_, rfl⟩
  rw [← hR] at hlen h0r ⊢
  have HR := Lib.hid hR
  have HS : Hid ((R.map bV).toArray.size = 32) := by show _ = _; simp [hlen]
  have HLR : Hid ((R.map bV).length = 32) := by show _ = _; simp [hlen]
  have HZ := Lib.hid h0r
  have HL := Lib.hid hl
  have HN := Lib.hid hln

  clear hR hlen hl hln h0r
  go_enter Tryz.func48, Tryz.ntmps48
  go_upto_region 1 with fail
  have F := Lib.hid (heap_alloc_new w (.cells (List.replicate 32 (bV 0)).toArray 44 (0, 0)))
  have B := Lib.hid ((Below.refl w.heap.size w).alloc (Nat.le_refl _) (.cells (List.replicate 32 (bV 0)).toArray 44 (0, 0)))
  generalize hw1 : World.alloc _ _ = w1
  have e1 : w.alloc (.cells (List.replicate 32 (bV 0)).toArray 44 (0, 0)) = w1 := hw1
  rw [e1] at F B
  clear hw1 e1
  by_cases h0 : n = 0
  · have t0 : ((n : Int) == 0) = true := by rw [beq_iff_eq]; omega
    obtain rfl : R = zM := HZ.out h0
    clear h0
    go_wp2_with ((with_reducible show wpList _ _ _ _ _ _); refine wpList_store_row rfl 44 (.tmp 2) (.tmp 6) rfl w.heap.size (zM.map bV).toArray rfl rfl 44 _ F.out (by rw [HS.out]; kernel_rfl) (by rw [HS.out]; rfl) (bV_one _) ?_; go_frame)
    refine bodyPost_ret (results_cell_row rfl _ _ w.heap.size 44 (zM.map bV).toArray (0, 0) (.array 32 5) rfl (setRow_heap _ _ _ _ _ _ F.out) Tryz.underlying44 rfl (by rw [HS.out]; kernel_rfl)) rfl ⟨rfl, below_setRow B.out (Nat.le_refl _) _⟩
  · have t0 : ((n : Int) == 0) = false := by rw [beq_eq_false_iff_ne]; omega
    have h1 : 1 ≤ n := by omega
    clear h0
    go_wp2_with fail
    go_loopw [0] (fun vl wr => rootRInv R w vl wr) (fun vl _ => slLen vl)
    case atStart => exact ⟨l, HL.out.below B.out, by have := HN.out; omega, by have := HN.out; omega, HR.out.symm, B.out, F.out⟩
    case round =>
      clear F B HL HN HR
      obtain ⟨l', hl, hm1, hm2, hr, hb, hf⟩ := hrel
      obtain ⟨sp', cap', rfl⟩ := hl.shape
      obtain ⟨m, hm⟩ : ∃ m, m = l'.length := ⟨_, rfl⟩
      rw [← hm] at hl hm1 hm2 ⊢
      have HL := Lib.hid hl
      have HM := Lib.hid hm
      have HR := Lib.hid hr
      have B := Lib.hid hb
      have F := Lib.hid hf
      clear hl hm hr hb hf
      by_cases h1m : 1 < m
      · have t1 : (m : Int) > 1 := by omega
        go_wp2_with fail
        refine (row_ref l' sp' m cap' _ HL.out hm2).mono ?_
        rintro e w2 ⟨v2, rfl, ho, hb2⟩
        obtain ⟨sp2, cap2, rfl⟩ := ho.at.shape
        obtain ⟨m2, hm3⟩ : ∃ m2, m2 = (rowL prH l').length := ⟨_, rfl⟩
        have hm4 : m2 = (m + 1) / 2 := by rw [hm3, rowL_length, ← HM.out]
        have HO := Lib.hid ho
        rw [← hm3] at HO ⊢
        have HM3 := Lib.hid hm3
        have B2 := Lib.hid (B.out.trans (hb2.mono B.out.size))
        have F2 := Lib.hid (row_below F.out hb2)
        have hm5 : 1 ≤ m2 := by omega
        have hm6 : m2 < m := by omega
        have HR2 : Hid (rootL prH zM (rowL prH l') = R) := by
          show _ = _
          rw [← rootL_more prH zM (by rw [← HM.out]; exact h1m)]
          exact HR.out
        clear ho hm3 hb2 hm4
        go_wp2_with fail
        go_roundw
        case rel => exact ⟨rowL prH l', HO.out.at, by rw [← HM3.out]; exact hm5, by rw [← HM3.out]; omega, HR2.out, B2.out, F2.out⟩
        case measure => exact hm6
      · have t1 : ¬ (m : Int) > 1 := by omega
        obtain rfl : m = 1 := by omega
        obtain ⟨b, o, rfl, hbw, hg⟩ := HL.out.get (by omega)
        have X : Hid (wr.rangeAt b o (R.map bV)) := by
          have h := hg 0 (by omega)
          rw [Nat.zero_mul, Nat.add_zero, getD_any (by have := HM.out; omega), ← rootL_one prH zM (by have := HM.out; omega), HR.out] at h
          exact h
        clear hg
        go_wp2_with ((with_reducible show wpList _ _ _ _ _ _); first | (refine wpList_load_mid rfl 44 (.tmp 13) rfl b o rfl (R.map bV) _ X.out Tryz.underlying44 rfl (by rw [HLR.out]; kernel_rfl) ?_; go_frame) | (refine wpList_store_row rfl 44 (.tmp 2) (.tmp 14) rfl w.heap.size (R.map bV).toArray rfl rfl 44 _ F.out (by rw [HS.out]; kernel_rfl) (by rw [HS.out]; rfl) (bV_one _) ?_; go_frame))
        refine bodyPost_ret (results_cell_row rfl _ _ w.heap.size 44 (R.map bV).toArray (0, 0) (.array 32 5) rfl (setRow_heap _ _ _ _ _ _ F.out) Tryz.underlying44 rfl (by rw [HS.out]; kernel_rfl)) rfl ⟨rfl, below_setRow B.out (Nat.le_refl _) _⟩
end Go.Proofs.YtckkcpplanfmhaaGreatDoor.Sha

/-
  The statements' own first transaction, their own block that each chain begins with. New memory; nothing that was there turns. Conditions: the bytes that are added lie where the slice says.
-/
namespace Go.Proofs.YtckkcpplanfmhaaGreatDoor.Sha
open Go Go.RowKit
theorem rootR_v (l : List (List UInt8)) (R : List UInt8) (v : Value) (w : World) (h : HsAt w v l) (hn : l.length ≤ 1048576) (hR : rootL prH zM l = R) :
    Calls Tryz.prog 48 #[v] w fun e w' => e = .returned (.agg (R.map bV).toArray) ∧ Below w.heap.size w w' := by
  obtain ⟨sp, cap, rfl⟩ := h.shape
  rw [← hR]
  exact rootR_any l sp _ cap w h hn
theorem own_keyAt {w : World} {base : Nat} {v : Value} {key : List UInt8} (h : w.ownsRow base 5 1 v key.length (key.map bV)) : KeyAt w v key ∧ ∀ sp n cap, v = .slice (some sp) n cap → base ≤ sp.block := by
  refine ⟨⟨src_own h, ?_⟩, fun sp n cap hv => ?_⟩
  · rcases h.2 with ⟨rfl, hn⟩ | ⟨g, cap, cur, rfl, _⟩
    · exact ⟨_, _, by rw [hn]⟩
    · exact ⟨_, _, rfl⟩
  · have := h.lt sp.block (by rw [hv]; rfl)
    exact this.1
set_option maxHeartbeats 4000000 in
set_option maxRecDepth 100000 in
theorem rfirst_any (h : Int) (h32 val : Nat) (lock ex : List UInt8) (ve : Value) (w : World) (hh : IntKind.u32.wrap h = (h32 : Int)) (h3 : h32 ≤ 4294967295) (hv : val ≤ 18446744073709551615) (hl : lock.length = 32) (hs : SrcB w ve ex) (he : ex.length ≤ 70368744170000) :
    Calls Tryz.prog 17 #[.int .i64 h, .int .u64 (val : Int), .agg (lock.map bV).toArray, ve] w fun e w' => ∃ v', e = .returned v' ∧ TxNew w w' v' (firstT h32 val lock ex) ∧ Below w.heap.size w w' := by
  obtain ⟨i0, hi, hz0, hz1, hz2⟩ := info_parts info_u8
  obtain ⟨i2, hi2, hx0, hx1, hx2⟩ := info_parts info_in
  obtain ⟨i3, hi3, hv0, hv1, hv2⟩ := info_parts info_out
  obtain ⟨se, ne, ce, rfl, q1, q2⟩ := hs.shape'
  clear q1 q2
  have H32 := Lib.hid h3
  have LK := Lib.hid hl
  have LL : Hid ((lock.map bV).toArray.size = 32) := by show _ = _; simp [hl]
  have LO : Hid ((outL ⟨val, lock⟩).length = 33) := outL_length _ hl
  have VB := Lib.hid hv
  have SE := Lib.hid hs
  have LE := Lib.hid he
  clear hl hs he hv h3
  go_enter Tryz.func17, Tryz.ntmps17
  go_upto_region 1 with fail
  have f1 := row_below (heap_alloc_new w (.cells (lock.map bV).toArray 44 (0, 0))) ((Below.refl _ _).alloc (Nat.le_refl _) (.cells [nV 0, .slice none 0 0, .slice none 0 0, nV 0].toArray 27))
  have f2 := heap_alloc_new (w.alloc (.cells (lock.map bV).toArray 44 (0, 0))) (.cells [nV 0, .slice none 0 0, .slice none 0 0, nV 0].toArray 27)
  have b1 := ((Below.refl w.heap.size w).alloc (Nat.le_refl _) (.cells (lock.map bV).toArray 44 (0, 0))).alloc (by simp) (.cells [nV 0, .slice none 0 0, .slice none 0 0, nV 0].toArray 27)
  rw [World.size_alloc] at f2
  generalize hw1 : World.alloc _ _ = w1
  have e1 : (w.alloc (.cells (lock.map bV).toArray 44 (0, 0))).alloc (.cells [nV 0, .slice none 0 0, .slice none 0 0, nV 0].toArray 27) = w1 := hw1
  rw [e1] at f1 f2 b1
  have F1 := Lib.hid f1
  have FT := Lib.hid f2
  have B1 := Lib.hid b1
  have LT1 : Hid (w.heap.size + 1 < w1.heap.size) := (Array.getElem?_eq_some_iff.1 f2).1
  clear f1 f2 b1 hw1 e1
  go_wp2_with fail
  refine (rfour_g h32 w1.heap.size [] _ w1 H32.out (Nat.le_refl _) (by simp) (World.ownsRow_nil _ _ _ _)).mono ?_
  rintro e w4 ⟨v4, rfl, hg4⟩
  have G4 := Lib.hid hg4
  have F1 := Lib.hid (row_far F1.out hg4.2.1 (by intro h; cases h))
  have FT := Lib.hid (row_far FT.out hg4.2.1 (by intro h; cases h))
  clear hg4
  go_upto_region 2 with ((with_reducible show wpList _ _ _ _ _ _); refine wpList_append_g _ rfl (.tmp 12) (.tmp 13) 51 rfl w1.heap.size 5 i0 Tryz.underlying51 hi hz0 hz1 hz2 _ _ _ (by rfl) G4.out.1 (.slice se ne ce) ex (by rfl) ((SE.out.below B1.out).below (G4.out.below (fun k hk => by cases hk) (Nat.le_refl _))) (by have := LE.out; simp [leB_length]; omega) G4.out.2.2.2 ?_; intro v5 w5 a1 a2 a3; have A1 := Lib.hid a1; have A2 := Lib.hid a2; have A3 := Lib.hid (G4.out.app a1 a2 a3); clear a1 a2 a3; go_frame)
  have LO4 : Hid (∀ k, v4.ownBlock = some k → w1.heap.size ≤ k) := fun k hk => (G4.out.1.lt k hk).1
  have F1 := Lib.hid (row_far F1.out A2.out (by intro h; have := LO4.out _ h; have := LT1.out; omega))
  have FT := Lib.hid (row_far FT.out A2.out (by intro h; have := LO4.out _ h; have := LT1.out; omega))
  have B5 : Hid (Below w.heap.size w w5) := B1.out.trans ((A3.out.below (fun k hk => by cases hk) B1.out.size))
  obtain ⟨kk, hk5⟩ := own_keyAt (key := leB h32 4 ++ ex) (show w5.ownsRow w1.heap.size 5 1 v5 (leB h32 4 ++ ex).length ((leB h32 4 ++ ex).map bV) from A3.out.1)
  obtain ⟨sk, nk, ck, rfl, q1, q2⟩ := kk.1.shape'
  have KK := Lib.hid kk
  have GK : Hid (∀ sp, sk = some sp → w.heap.size + 1 < sp.block) := fun sp e => by subst e; have := hk5 _ _ _ rfl; have := LT1.out; omega
  clear kk hk5 q1 q2 A1 A2 A3 G4 LO4
  refine wp_region_held_drew (S := (fun w' => Below w.heap.size w w' ∧ w'.heap[w.heap.size]? = some (.cells (lock.map bV).toArray 44 (0, 0)))) (by kernel_rfl) (⟨Below.drew B5.out, F1.out⟩) (fun hHeld => ?_)
  have FT : Hid (w5.drew.heap[w.heap.size + 1]? = some (.cells [nV 0, .slice none 0 0, .slice none 0 0, nV 0].toArray 27 (0, 0))) := FT.out
  have KK : Hid (KeyAt w5.drew (.slice sk nk ck) (leB h32 4 ++ ex)) := KK.out
  generalize hwd : w5.drew = wd at FT KK hHeld ⊢
  clear hwd
  refine held_take (i := 1) (v := (.slice sk nk ck)) rfl (by kernel_rfl) (by kernel_rfl) (by kernel_rfl) (fun _ _ _ h => h) (Or.inl ⟨by rfl, fun w' _ => by kernel_rfl⟩) hHeld ?_
  go_frame
  refine held_take (i := 4) (v := (.int .u64 (val : Int))) rfl (by kernel_rfl) (by kernel_rfl) (by kernel_rfl) (fun _ _ _ h => h) (Or.inl ⟨by rfl, fun w' _ => by kernel_rfl⟩) hHeld ?_
  go_frame
  refine held_take (i := 5) (v := (.agg (lock.map bV).toArray)) rfl (by kernel_rfl) (by kernel_rfl) (by kernel_rfl) (fun _ _ _ h => h) (yieldsIf_load_row (by rfl) 44 (.tmp 6) rfl w.heap.size rfl 44 (lock.map bV).toArray (0, 0) _ (fun w' hw' => hw'.2) Tryz.underlying44 rfl (by rw [LL.out]; kernel_rfl)) hHeld ?_
  go_frame
  refine held_take (i := 6) (v := (.agg (outL ⟨val, lock⟩).toArray)) rfl (by kernel_rfl) (by kernel_rfl) (by kernel_rfl) (fun _ _ _ h => h) (yieldsIf_build (by rfl) 65 _ rfl [(0, .int .u64 (val : Int)), (1, .agg (lock.map bV).toArray)] (by kernel_rfl) _ (built_outl val lock LK.out)) hHeld ?_
  go_frame
  refine wpAnyH_ready (rs := [0, 7]) (by kernel_rfl) (by simp) (held_cons rfl (fun K hK => ?_) (held_cons rfl (fun K hK => ?_) AllReadyH.nil))
  · skip
    go_simp
    refine (rnull_any _).mono ?_
    rintro e v1 ⟨rfl, bb⟩
    have FT := Lib.hid (row_below FT.out bb)
    have KK := Lib.hid (KK.out.below bb)
    have hv1 := (show _ ∧ _ from ⟨hHeld.1.trans (bb.mono hHeld.1.size), row_below hHeld.2 bb⟩)
    clear bb hHeld
    go_wp2_with fail
    refine hK.out _ _ hv1 (fun hHeld => ?_)
    clear hK K hv1
    refine held_take (i := 2) (v := (.agg (inL (firstX h32 ex) (.slice sk nk ck)).toArray)) rfl (by kernel_rfl) (by kernel_rfl) (by kernel_rfl) (fun _ _ _ h => h) (yieldsIf_build (by rfl) 53 _ rfl [(0, .agg nullL.toArray), (1, .slice sk nk ck), (2, .int .u32 4294967295)] (by kernel_rfl) _ (by kernel_rfl)) hHeld ?_
    go_frame
    refine wpAnyH_ready (rs := [3, 7]) (by kernel_rfl) (by simp) (held_cons rfl (fun K hK => ?_) (held_cons rfl (fun K hK => ?_) AllReadyH.nil))
    · skip
      rw [if_pos (by rfl)]
      refine wp_slice_one 24 53 (.tmp 17) rfl (inL (firstX h32 ex) (.slice sk nk ck)) rfl Tryz.underlying24 i2 _ hi2 hx0 (by rw [hx1]; rfl) (by show 0 < 35; omega) (by show 35 ≤ _; omega) ?_
      have nf := heap_alloc_new v1 (.cells (inL (firstX h32 ex) (.slice sk nk ck)).toArray 53 (0, 0))
      have bb := (Below.refl v1.heap.size v1).alloc (Nat.le_refl _) (.cells (inL (firstX h32 ex) (.slice sk nk ck)).toArray 53 (0, 0))
      obtain ⟨gv2, hgv2⟩ : ∃ g, g = v1.heap.size := ⟨_, rfl⟩
      generalize hqv2 : World.alloc _ _ = v2
      have ev2 : v1.alloc (.cells (inL (firstX h32 ex) (.slice sk nk ck)).toArray 53 (0, 0)) = v2 := hqv2
      rw [ev2] at nf bb
      rw [← hgv2] at nf ⊢
      have NI := Lib.hid nf
      have GNI : Hid (w.heap.size + 1 < gv2) := by show _ < _; rw [hgv2]; exact (Array.getElem?_eq_some_iff.1 FT.out).1
      have FT := Lib.hid (row_below FT.out bb)
      have KK := Lib.hid (KK.out.below bb)
      have hv2 := (show _ ∧ _ from ⟨hHeld.1.trans (bb.mono hHeld.1.size), row_below hHeld.2 bb⟩)
      clear nf bb hqv2 ev2 hgv2 hHeld
      go_frame
      refine hK.out _ _ hv2 (fun hHeld => ?_)
      clear hK K hv2
      refine wpAnyH_ready (rs := [7]) (by kernel_rfl) (by simp) (held_cons rfl (fun K hK => ?_) AllReadyH.nil)
      rw [if_pos (by rfl)]
      refine wp_slice_one 25 65 (.tmp 21) rfl (outL ⟨val, lock⟩) rfl Tryz.underlying25 i3 _ hi3 hv0 (by rw [hv1, LO.out]) (by rw [LO.out]; omega) (by rw [LO.out]; omega) ?_
      have nf := heap_alloc_new v2 (.cells (outL ⟨val, lock⟩).toArray 65 (0, 0))
      have bb := (Below.refl v2.heap.size v2).alloc (Nat.le_refl _) (.cells (outL ⟨val, lock⟩).toArray 65 (0, 0))
      obtain ⟨gv3, hgv3⟩ : ∃ g, g = v2.heap.size := ⟨_, rfl⟩
      generalize hqv3 : World.alloc _ _ = v3
      have ev3 : v2.alloc (.cells (outL ⟨val, lock⟩).toArray 65 (0, 0)) = v3 := hqv3
      rw [ev3] at nf bb
      rw [← hgv3] at nf ⊢
      have NO := Lib.hid nf
      have GNO : Hid (w.heap.size + 1 < gv3) := by show _ < _; rw [hgv3]; exact (Array.getElem?_eq_some_iff.1 FT.out).1
      have FT := Lib.hid (row_below FT.out bb)
      have KK := Lib.hid (KK.out.below bb)
      have NI := Lib.hid (row_below NI.out bb)
      have hv3 := (show _ ∧ _ from ⟨hHeld.1.trans (bb.mono hHeld.1.size), row_below hHeld.2 bb⟩)
      clear nf bb hqv3 ev3 hgv3 hHeld
      go_frame
      refine hK.out _ _ hv3 (fun hHeld => ?_)
      clear hK K hv3
      refine held_take (i := 8) (v := (.agg ([nV 1, (.slice (some ⟨gv2, 0, none⟩) 1 1), (.slice (some ⟨gv3, 0, none⟩) 1 1), nV 0]).toArray)) rfl (by kernel_rfl) (by kernel_rfl) (by kernel_rfl) (fun _ _ _ h => h) (yieldsIf_build (by rfl) 27 _ rfl [(0, .int .u32 1), (1, (.slice (some ⟨gv2, 0, none⟩) 1 1)), (2, (.slice (some ⟨gv3, 0, none⟩) 1 1))] (by kernel_rfl) _ (by kernel_rfl)) hHeld ?_
      go_frame
      refine wpAnyH_ready (rs := [9]) (by kernel_rfl) (by simp) (held_cons rfl (fun K hK => ?_) AllReadyH.nil)
      rw [if_pos (by rfl)]
      refine wp_store_whole 27 (.tmp 8) (.tmp 23) rfl (w.heap.size + 1) [nV 0, .slice none 0 0, .slice none 0 0, nV 0] [nV 1, (.slice (some ⟨gv2, 0, none⟩) 1 1), (.slice (some ⟨gv3, 0, none⟩) 1 1), nV 0] 27 rfl rfl (rfl) FT.out (by kernel_rfl) (by kernel_rfl) ?_
      intro v4 q1 q2
      have FT := Lib.hid q1
      have KK := Lib.hid (KeyAt.off KK.out (fun sp n cap hv _ hq => by cases hv; have e : w.heap.size + 1 = sp.block := Option.some.inj hq; have := GK.out sp rfl; omega) q2)
      have NI := Lib.hid (row_far NI.out q2 (by intro h; have := Option.some.inj h; have := GNI.out; omega))
      have NO := Lib.hid (row_far NO.out q2 (by intro h; have := Option.some.inj h; have := GNO.out; omega))
      have hv4 := (show _ ∧ _ from ⟨hHeld.1.grown q2 hHeld.1.size (fun k hk => by cases hk; omega), row_far hHeld.2 q2 (by intro h; have := Option.some.inj h; omega)⟩)
      clear q1 q2 hHeld
      go_frame
      refine hK.out _ _ hv4 (fun hHeld => ?_)
      clear hK K hv4
      refine wpAnyH_done (by kernel_rfl) ?_ _
      have BZ := Lib.hid hHeld.1
      clear hHeld
      go_wp2_with fail
      refine bodyPost_ret (results_cell_row rfl _ _ (w.heap.size + 1) 27 ([nV 1, (.slice (some ⟨gv2, 0, none⟩) 1 1), (.slice (some ⟨gv3, 0, none⟩) 1 1), nV 0]).toArray (0, 0) _ rfl FT.out Tryz.underlying27 rfl (by kernel_rfl)) rfl ?_
      exact ⟨_, rfl, fun W hW => ⟨⟨by show 1 ≤ _; omega, by show 0 ≤ _; omega⟩, _, _, rfl, insAt_one (row_kps NI.out hW (by have := GNI.out; show _ ≤ _; omega)) (x := firstX h32 ex) (firstX_ok ex H32.out) (KK.out.kps (fun sp n cap hv _ => by cases hv; have := GK.out sp rfl; show w.heap.size ≤ sp.block; omega) hW), outsAt_one (row_kps NO.out hW (by have := GNO.out; show _ ≤ _; omega)) (y := ⟨val, lock⟩) ⟨LK.out, VB.out⟩⟩, BZ.out⟩
    · skip
      rw [if_pos (by rfl)]
      refine wp_slice_one 25 65 (.tmp 21) rfl (outL ⟨val, lock⟩) rfl Tryz.underlying25 i3 _ hi3 hv0 (by rw [hv1, LO.out]) (by rw [LO.out]; omega) (by rw [LO.out]; omega) ?_
      have nf := heap_alloc_new v1 (.cells (outL ⟨val, lock⟩).toArray 65 (0, 0))
      have bb := (Below.refl v1.heap.size v1).alloc (Nat.le_refl _) (.cells (outL ⟨val, lock⟩).toArray 65 (0, 0))
      obtain ⟨gv5, hgv5⟩ : ∃ g, g = v1.heap.size := ⟨_, rfl⟩
      generalize hqv5 : World.alloc _ _ = v5
      have ev5 : v1.alloc (.cells (outL ⟨val, lock⟩).toArray 65 (0, 0)) = v5 := hqv5
      rw [ev5] at nf bb
      rw [← hgv5] at nf ⊢
      have NO := Lib.hid nf
      have GNO : Hid (w.heap.size + 1 < gv5) := by show _ < _; rw [hgv5]; exact (Array.getElem?_eq_some_iff.1 FT.out).1
      have FT := Lib.hid (row_below FT.out bb)
      have KK := Lib.hid (KK.out.below bb)
      have hv5 := (show _ ∧ _ from ⟨hHeld.1.trans (bb.mono hHeld.1.size), row_below hHeld.2 bb⟩)
      clear nf bb hqv5 ev5 hgv5 hHeld
      go_frame
      refine hK.out _ _ hv5 (fun hHeld => ?_)
      clear hK K hv5
      refine wpAnyH_ready (rs := [3]) (by kernel_rfl) (by simp) (held_cons rfl (fun K hK => ?_) AllReadyH.nil)
      rw [if_pos (by rfl)]
      refine wp_slice_one 24 53 (.tmp 17) rfl (inL (firstX h32 ex) (.slice sk nk ck)) rfl Tryz.underlying24 i2 _ hi2 hx0 (by rw [hx1]; rfl) (by show 0 < 35; omega) (by show 35 ≤ _; omega) ?_
      have nf := heap_alloc_new v5 (.cells (inL (firstX h32 ex) (.slice sk nk ck)).toArray 53 (0, 0))
      have bb := (Below.refl v5.heap.size v5).alloc (Nat.le_refl _) (.cells (inL (firstX h32 ex) (.slice sk nk ck)).toArray 53 (0, 0))
      obtain ⟨gv6, hgv6⟩ : ∃ g, g = v5.heap.size := ⟨_, rfl⟩
      generalize hqv6 : World.alloc _ _ = v6
      have ev6 : v5.alloc (.cells (inL (firstX h32 ex) (.slice sk nk ck)).toArray 53 (0, 0)) = v6 := hqv6
      rw [ev6] at nf bb
      rw [← hgv6] at nf ⊢
      have NI := Lib.hid nf
      have GNI : Hid (w.heap.size + 1 < gv6) := by show _ < _; rw [hgv6]; exact (Array.getElem?_eq_some_iff.1 FT.out).1
      have FT := Lib.hid (row_below FT.out bb)
      have KK := Lib.hid (KK.out.below bb)
      have NO := Lib.hid (row_below NO.out bb)
      have hv6 := (show _ ∧ _ from ⟨hHeld.1.trans (bb.mono hHeld.1.size), row_below hHeld.2 bb⟩)
      clear nf bb hqv6 ev6 hgv6 hHeld
      go_frame
      refine hK.out _ _ hv6 (fun hHeld => ?_)
      clear hK K hv6
      refine held_take (i := 8) (v := (.agg ([nV 1, (.slice (some ⟨gv6, 0, none⟩) 1 1), (.slice (some ⟨gv5, 0, none⟩) 1 1), nV 0]).toArray)) rfl (by kernel_rfl) (by kernel_rfl) (by kernel_rfl) (fun _ _ _ h => h) (yieldsIf_build (by rfl) 27 _ rfl [(0, .int .u32 1), (1, (.slice (some ⟨gv6, 0, none⟩) 1 1)), (2, (.slice (some ⟨gv5, 0, none⟩) 1 1))] (by kernel_rfl) _ (by kernel_rfl)) hHeld ?_
      go_frame
      refine wpAnyH_ready (rs := [9]) (by kernel_rfl) (by simp) (held_cons rfl (fun K hK => ?_) AllReadyH.nil)
      rw [if_pos (by rfl)]
      refine wp_store_whole 27 (.tmp 8) (.tmp 23) rfl (w.heap.size + 1) [nV 0, .slice none 0 0, .slice none 0 0, nV 0] [nV 1, (.slice (some ⟨gv6, 0, none⟩) 1 1), (.slice (some ⟨gv5, 0, none⟩) 1 1), nV 0] 27 rfl rfl (rfl) FT.out (by kernel_rfl) (by kernel_rfl) ?_
      intro v7 q1 q2
      have FT := Lib.hid q1
      have KK := Lib.hid (KeyAt.off KK.out (fun sp n cap hv _ hq => by cases hv; have e : w.heap.size + 1 = sp.block := Option.some.inj hq; have := GK.out sp rfl; omega) q2)
      have NO := Lib.hid (row_far NO.out q2 (by intro h; have := Option.some.inj h; have := GNO.out; omega))
      have NI := Lib.hid (row_far NI.out q2 (by intro h; have := Option.some.inj h; have := GNI.out; omega))
      have hv7 := (show _ ∧ _ from ⟨hHeld.1.grown q2 hHeld.1.size (fun k hk => by cases hk; omega), row_far hHeld.2 q2 (by intro h; have := Option.some.inj h; omega)⟩)
      clear q1 q2 hHeld
      go_frame
      refine hK.out _ _ hv7 (fun hHeld => ?_)
      clear hK K hv7
      refine wpAnyH_done (by kernel_rfl) ?_ _
      have BZ := Lib.hid hHeld.1
      clear hHeld
      go_wp2_with fail
      refine bodyPost_ret (results_cell_row rfl _ _ (w.heap.size + 1) 27 ([nV 1, (.slice (some ⟨gv6, 0, none⟩) 1 1), (.slice (some ⟨gv5, 0, none⟩) 1 1), nV 0]).toArray (0, 0) _ rfl FT.out Tryz.underlying27 rfl (by kernel_rfl)) rfl ?_
      exact ⟨_, rfl, fun W hW => ⟨⟨by show 1 ≤ _; omega, by show 0 ≤ _; omega⟩, _, _, rfl, insAt_one (row_kps NI.out hW (by have := GNI.out; show _ ≤ _; omega)) (x := firstX h32 ex) (firstX_ok ex H32.out) (KK.out.kps (fun sp n cap hv _ => by cases hv; have := GK.out sp rfl; show w.heap.size ≤ sp.block; omega) hW), outsAt_one (row_kps NO.out hW (by have := GNO.out; show _ ≤ _; omega)) (y := ⟨val, lock⟩) ⟨LK.out, VB.out⟩⟩, BZ.out⟩
  · skip
    rw [if_pos (by rfl)]
    refine wp_slice_one 25 65 (.tmp 21) rfl (outL ⟨val, lock⟩) rfl Tryz.underlying25 i3 _ hi3 hv0 (by rw [hv1, LO.out]) (by rw [LO.out]; omega) (by rw [LO.out]; omega) ?_
    have nf := heap_alloc_new wd (.cells (outL ⟨val, lock⟩).toArray 65 (0, 0))
    have bb := (Below.refl wd.heap.size wd).alloc (Nat.le_refl _) (.cells (outL ⟨val, lock⟩).toArray 65 (0, 0))
    obtain ⟨gv8, hgv8⟩ : ∃ g, g = wd.heap.size := ⟨_, rfl⟩
    generalize hqv8 : World.alloc _ _ = v8
    have ev8 : wd.alloc (.cells (outL ⟨val, lock⟩).toArray 65 (0, 0)) = v8 := hqv8
    rw [ev8] at nf bb
    rw [← hgv8] at nf ⊢
    have NO := Lib.hid nf
    have GNO : Hid (w.heap.size + 1 < gv8) := by show _ < _; rw [hgv8]; exact (Array.getElem?_eq_some_iff.1 FT.out).1
    have FT := Lib.hid (row_below FT.out bb)
    have KK := Lib.hid (KK.out.below bb)
    have hv8 := (show _ ∧ _ from ⟨hHeld.1.trans (bb.mono hHeld.1.size), row_below hHeld.2 bb⟩)
    clear nf bb hqv8 ev8 hgv8 hHeld
    go_frame
    refine hK.out _ _ hv8 (fun hHeld => ?_)
    clear hK K hv8
    refine wpAnyH_ready (rs := [0]) (by kernel_rfl) (by simp) (held_cons rfl (fun K hK => ?_) AllReadyH.nil)
    go_simp
    refine (rnull_any _).mono ?_
    rintro e v9 ⟨rfl, bb⟩
    have FT := Lib.hid (row_below FT.out bb)
    have KK := Lib.hid (KK.out.below bb)
    have NO := Lib.hid (row_below NO.out bb)
    have hv9 := (show _ ∧ _ from ⟨hHeld.1.trans (bb.mono hHeld.1.size), row_below hHeld.2 bb⟩)
    clear bb hHeld
    go_wp2_with fail
    refine hK.out _ _ hv9 (fun hHeld => ?_)
    clear hK K hv9
    refine held_take (i := 2) (v := (.agg (inL (firstX h32 ex) (.slice sk nk ck)).toArray)) rfl (by kernel_rfl) (by kernel_rfl) (by kernel_rfl) (fun _ _ _ h => h) (yieldsIf_build (by rfl) 53 _ rfl [(0, .agg nullL.toArray), (1, .slice sk nk ck), (2, .int .u32 4294967295)] (by kernel_rfl) _ (by kernel_rfl)) hHeld ?_
    go_frame
    refine wpAnyH_ready (rs := [3]) (by kernel_rfl) (by simp) (held_cons rfl (fun K hK => ?_) AllReadyH.nil)
    rw [if_pos (by rfl)]
    refine wp_slice_one 24 53 (.tmp 17) rfl (inL (firstX h32 ex) (.slice sk nk ck)) rfl Tryz.underlying24 i2 _ hi2 hx0 (by rw [hx1]; rfl) (by show 0 < 35; omega) (by show 35 ≤ _; omega) ?_
    have nf := heap_alloc_new v9 (.cells (inL (firstX h32 ex) (.slice sk nk ck)).toArray 53 (0, 0))
    have bb := (Below.refl v9.heap.size v9).alloc (Nat.le_refl _) (.cells (inL (firstX h32 ex) (.slice sk nk ck)).toArray 53 (0, 0))
    obtain ⟨gv10, hgv10⟩ : ∃ g, g = v9.heap.size := ⟨_, rfl⟩
    generalize hqv10 : World.alloc _ _ = v10
    have ev10 : v9.alloc (.cells (inL (firstX h32 ex) (.slice sk nk ck)).toArray 53 (0, 0)) = v10 := hqv10
    rw [ev10] at nf bb
    rw [← hgv10] at nf ⊢
    have NI := Lib.hid nf
    have GNI : Hid (w.heap.size + 1 < gv10) := by show _ < _; rw [hgv10]; exact (Array.getElem?_eq_some_iff.1 FT.out).1
    have FT := Lib.hid (row_below FT.out bb)
    have KK := Lib.hid (KK.out.below bb)
    have NO := Lib.hid (row_below NO.out bb)
    have hv10 := (show _ ∧ _ from ⟨hHeld.1.trans (bb.mono hHeld.1.size), row_below hHeld.2 bb⟩)
    clear nf bb hqv10 ev10 hgv10 hHeld
    go_frame
    refine hK.out _ _ hv10 (fun hHeld => ?_)
    clear hK K hv10
    refine held_take (i := 8) (v := (.agg ([nV 1, (.slice (some ⟨gv10, 0, none⟩) 1 1), (.slice (some ⟨gv8, 0, none⟩) 1 1), nV 0]).toArray)) rfl (by kernel_rfl) (by kernel_rfl) (by kernel_rfl) (fun _ _ _ h => h) (yieldsIf_build (by rfl) 27 _ rfl [(0, .int .u32 1), (1, (.slice (some ⟨gv10, 0, none⟩) 1 1)), (2, (.slice (some ⟨gv8, 0, none⟩) 1 1))] (by kernel_rfl) _ (by kernel_rfl)) hHeld ?_
    go_frame
    refine wpAnyH_ready (rs := [9]) (by kernel_rfl) (by simp) (held_cons rfl (fun K hK => ?_) AllReadyH.nil)
    rw [if_pos (by rfl)]
    refine wp_store_whole 27 (.tmp 8) (.tmp 23) rfl (w.heap.size + 1) [nV 0, .slice none 0 0, .slice none 0 0, nV 0] [nV 1, (.slice (some ⟨gv10, 0, none⟩) 1 1), (.slice (some ⟨gv8, 0, none⟩) 1 1), nV 0] 27 rfl rfl (rfl) FT.out (by kernel_rfl) (by kernel_rfl) ?_
    intro v11 q1 q2
    have FT := Lib.hid q1
    have KK := Lib.hid (KeyAt.off KK.out (fun sp n cap hv _ hq => by cases hv; have e : w.heap.size + 1 = sp.block := Option.some.inj hq; have := GK.out sp rfl; omega) q2)
    have NO := Lib.hid (row_far NO.out q2 (by intro h; have := Option.some.inj h; have := GNO.out; omega))
    have NI := Lib.hid (row_far NI.out q2 (by intro h; have := Option.some.inj h; have := GNI.out; omega))
    have hv11 := (show _ ∧ _ from ⟨hHeld.1.grown q2 hHeld.1.size (fun k hk => by cases hk; omega), row_far hHeld.2 q2 (by intro h; have := Option.some.inj h; omega)⟩)
    clear q1 q2 hHeld
    go_frame
    refine hK.out _ _ hv11 (fun hHeld => ?_)
    clear hK K hv11
    refine wpAnyH_done (by kernel_rfl) ?_ _
    have BZ := Lib.hid hHeld.1
    clear hHeld
    go_wp2_with fail
    refine bodyPost_ret (results_cell_row rfl _ _ (w.heap.size + 1) 27 ([nV 1, (.slice (some ⟨gv10, 0, none⟩) 1 1), (.slice (some ⟨gv8, 0, none⟩) 1 1), nV 0]).toArray (0, 0) _ rfl FT.out Tryz.underlying27 rfl (by kernel_rfl)) rfl ?_
    exact ⟨_, rfl, fun W hW => ⟨⟨by show 1 ≤ _; omega, by show 0 ≤ _; omega⟩, _, _, rfl, insAt_one (row_kps NI.out hW (by have := GNI.out; show _ ≤ _; omega)) (x := firstX h32 ex) (firstX_ok ex H32.out) (KK.out.kps (fun sp n cap hv _ => by cases hv; have := GK.out sp rfl; show w.heap.size ≤ sp.block; omega) hW), outsAt_one (row_kps NO.out hW (by have := GNO.out; show _ ≤ _; omega)) (y := ⟨val, lock⟩) ⟨LK.out, VB.out⟩⟩, BZ.out⟩
set_option maxHeartbeats 2000000 in
set_option maxRecDepth 100000 in
theorem rooted_any (x : TBlk) (tv : Value) (w : World) (hh : HdOk x.head) (ht : TxsAt w tv x.txs) (hs : BlkSmall x) :
    Calls Tryz.prog 18 #[.agg (blL x.head tv).toArray] w fun e w' => e = .returned (.agg (blL { x.head with root := blRoot x } tv).toArray) ∧ Below w.heap.size w w' := by
  have HH := Lib.hid hh
  have HT := Lib.hid ht
  have TS := Lib.hid hs
  have T1 : Hid (tv.oneCell' = true) := ht.one
  obtain ⟨cs, hcs⟩ : ∃ cs, cs = blL x.head tv := ⟨_, rfl⟩
  have K1 : Hid (∀ W g, W.heap[g]? = some (.cells cs.toArray 71 (0, 0)) → BlBox W g x.head tv) := fun W g h => ⟨by rw [← hcs]; exact h⟩
  obtain ⟨R, hR⟩ : ∃ R, R = blRoot x := ⟨_, rfl⟩
  have LR : Hid (R.length = 32) := by show _ = _; rw [hR]; exact blRoot_length x
  have HR : Hid (rootL prH zM (idsL x.txs) = R) := hR.symm
  have HOK : Hid (HdOk { x.head with root := R }) := ⟨hh.1, hh.2.1, LR.out, hh.2.2.2.1, hh.2.2.2.2.1, hh.2.2.2.2.2⟩
  rw [← hR, ← hcs]
  obtain ⟨ds, hds⟩ : ∃ ds, ds = blL { x.head with root := R } tv := ⟨_, rfl⟩
  rw [← hds]
  have ON2 : Hid (ds.toArray.all (·.oneCell') = true) := by show _ = _; rw [hds]; exact blL_one T1.out
  have LS2 : Hid (ds.toArray.size = 69) := by show _ = _; rw [hds]; exact blL_size HOK.out _
  have K2 : Hid (∀ W g, BlBox W g { x.head with root := R } tv → W.heap[g]? = some (.cells ds.toArray 71 (0, 0))) := fun W g h => by rw [hds]; exact h.row
  clear hcs hds hR hh ht hs
  go_enter Tryz.func18, Tryz.ntmps18
  go_upto_region 1 with fail
  have f1 := row_below (heap_alloc_new w (.cells cs.toArray 71 (0, 0))) ((Below.refl _ _).alloc (Nat.le_refl _) (.cells Tryz.zeroCells71 71))
  have f2 := heap_alloc_new (w.alloc (.cells cs.toArray 71 (0, 0))) (.cells Tryz.zeroCells71 71)
  have b1 := ((Below.refl w.heap.size w).alloc (Nat.le_refl _) (.cells cs.toArray 71 (0, 0))).alloc (by simp) (.cells Tryz.zeroCells71 71)
  rw [World.size_alloc] at f2
  generalize hw1 : World.alloc _ _ = w1
  have e1 : (w.alloc (.cells cs.toArray 71 (0, 0))).alloc (.cells Tryz.zeroCells71 71) = w1 := hw1
  rw [e1] at f1 f2 b1
  have k1 := K1.out _ _ f1
  have c1 := k1.txs HH.out
  have K := Lib.hid k1
  have F2 := Lib.hid f2
  have B1 := Lib.hid b1
  clear f1 f2 b1 hw1 e1 k1 K1
  go_wp2_with fail
  refine (rids_any x.txs tv w1 (HT.out.below B1.out) TS.out.1 TS.out.2).mono ?_
  rintro e w2 ⟨v2, rfl, ho, hb2⟩
  have HA := Lib.hid ho.at
  have B2 := Lib.hid (B1.out.trans (hb2.mono B1.out.size))
  have K2' := Lib.hid (K.out.below hb2)
  have F3 := Lib.hid (row_below F2.out hb2)
  clear ho hb2 c1
  go_wp2_with fail
  refine (rootR_v (idsL x.txs) R v2 w2 HA.out (by rw [idsL_length]; have := TS.out.2; omega) HR.out).mono ?_
  rintro e w3 ⟨rfl, hb3⟩
  have B3 := Lib.hid (B2.out.trans (hb3.mono B2.out.size))
  have K3 := Lib.hid (K2'.out.below hb3)
  have F4 := Lib.hid (row_below F3.out hb3)
  clear hb3
  go_upto_region 2 with ((with_reducible show wpList _ _ _ _ _ _); refine st_blroot rfl (.tmp 8) (.tmp 6) rfl rfl R LR.out rfl HH.out K3.out ?_; intro w4 k4 g4; have K4 := Lib.hid (K2.out _ _ k4); have G4 := Lib.hid g4; clear k4 g4; go_frame)
  have F5 := Lib.hid (row_far F4.out G4.out (by intro h; have := Option.some.inj h; omega))
  have B4 := Lib.hid (B3.out.grown G4.out B3.out.size (fun k hk => by cases hk; exact Nat.le_refl _))
  go_wp2_with ((with_reducible show wpList _ _ _ _ _ _); first | (refine wpList_load_row rfl 71 (.tmp 1) rfl w.heap.size rfl 71 ds.toArray (0, 0) _ K4.out Tryz.underlying71 rfl (by rw [LS2.out]; kernel_rfl) ?_; go_frame) | (refine wpList_store_row rfl 71 (.tmp 2) (.tmp 9) rfl (w.heap.size + 1) ds.toArray rfl rfl 71 _ F5.out (by rw [LS2.out]; kernel_rfl) (by rw [LS2.out]; kernel_rfl) ON2.out ?_; go_frame))
  exact bodyPost_ret (results_cell_row rfl _ _ (w.heap.size + 1) 71 ds.toArray (0, 0) _ rfl (setRow_heap _ _ _ _ _ _ F5.out) Tryz.underlying71 rfl (by rw [LS2.out]; kernel_rfl)) rfl ⟨rfl, below_setRow B4.out (Nat.le_succ _) _⟩
set_option maxHeartbeats 2000000 in
set_option maxRecDepth 100000 in
theorem rstart_any (w : World) : Calls Tryz.prog 31 #[] w fun e w' => ∃ v, e = .returned v ∧ BlkAt w' v startX ∧ Below w.heap.size w w' := by
  obtain ⟨i0, hi, hz0, hz1, hz2⟩ := info_parts info_txc
  have LC : Hid (∀ W, Calls Tryz.prog 20 #[.slice none 0 0] W fun e w' => e = .returned (.agg ((sha []).map bV).toArray) ∧ Below W.heap.size W w') := fun W => ref_any [] none 0 0 W (nil_src _) (by omega)
  have FC : Hid (∀ W, Calls Tryz.prog 17 #[.int .i64 0, .int .u64 0, .agg ((sha []).map bV).toArray, .slice none 0 0] W fun e w' => ∃ v', e = .returned v' ∧ TxNew W w' v' startT ∧ Below W.heap.size W w') := fun W =>
    rfirst_any 0 0 0 (sha []) [] (.slice none 0 0) W (by decide) (by omega) (by omega) (sha_length _) (nil_src _) (by simp)
  obtain ⟨lk, hlk⟩ : ∃ lk, lk = ((sha []).map bV).toArray := ⟨_, rfl⟩
  rw [← hlk] at LC FC
  clear hlk
  go_enter Tryz.func31, Tryz.ntmps31
  go_upto_region 1 with fail
  have f0 := heap_alloc_new w (.cells Tryz.zeroCells71 71 (0, 0))
  have b0 := (Below.refl w.heap.size w).alloc (Nat.le_refl _) (.cells Tryz.zeroCells71 71 (0, 0))
  generalize hw1 : World.alloc _ _ = w1
  have e1 : w.alloc (.cells Tryz.zeroCells71 71 (0, 0)) = w1 := hw1
  rw [e1] at f0 b0
  have F0 := Lib.hid f0
  have B0 := Lib.hid b0
  clear f0 b0 hw1 e1
  go_wp2_with ((with_reducible show wpList _ _ _ _ _ _); refine wpList_buildTo rfl 68 _ rfl _ rfl (hdL startH).toArray (by kernel_rfl) ?_; go_frame)
  refine (LC.out w1).mono ?_
  rintro e w2 ⟨rfl, hb2⟩
  have B2 := Lib.hid (B0.out.trans (hb2.mono B0.out.size))
  have F2 := Lib.hid (row_below F0.out hb2)
  clear hb2
  go_wp2_with fail
  refine (FC.out w2).mono ?_
  rintro e w3 ⟨v3, rfl, ht3, hb3⟩
  have B3 := Lib.hid (B2.out.trans (hb3.mono B2.out.size))
  have F3 := Lib.hid (row_below F2.out hb3)
  have N3 := Lib.hid hb3
  have TA := Lib.hid ht3
  obtain ⟨_, iv, ov, rfl, _, _⟩ := ht3.at
  have LW2 : Hid (w.heap.size < w2.heap.size) := (Array.getElem?_eq_some_iff.1 F2.out).1
  clear hb3
  have CT : Hid ((txL startT iv ov).length = 4) := rfl
  obtain ⟨ct, hct⟩ : ∃ ct, ct = txL startT iv ov := ⟨_, rfl⟩
  rw [← hct] at CT TA ⊢
  have HCT := Lib.hid hct
  clear hct
  go_wp2_with ((with_reducible show wpList _ _ _ _ _ _); first | (refine wpList_slice_one rfl 69 27 (.tmp 3) rfl ct rfl Tryz.underlying69 i0 _ hi hz0 (by rw [hz1, CT.out]) (by rw [CT.out]; omega) (by rw [CT.out]; omega) ?_; have nf := heap_alloc_new w3 (.cells (ct).toArray 27 (0, 0)); have bb := (Below.refl w3.heap.size w3).alloc (Nat.le_refl _) (.cells (ct).toArray 27 (0, 0)); obtain ⟨gt, hgt⟩ : ∃ g, g = w3.heap.size := ⟨_, rfl⟩; generalize hq : World.alloc _ _ = w4; have e2 : w3.alloc (.cells (ct).toArray 27 (0, 0)) = w4 := hq; rw [e2] at nf bb; rw [← hgt] at nf ⊢; have NT := Lib.hid nf; have B4 := Lib.hid (B3.out.trans (bb.mono B3.out.size)); have F4 := Lib.hid (row_below F3.out bb); have GTL := Lib.hid ((show w2.heap.size ≤ gt by rw [hgt]; exact N3.out.size)); have TA4 := Lib.hid (TA.out.on (Kps.new bb)); clear nf bb hq e2 hgt; go_frame) | (refine wpList_buildTo rfl 71 _ rfl _ rfl (blL startH (.slice (some ⟨gt, 0, none⟩) 1 1)).toArray (by kernel_rfl) ?_; go_frame))
  have TX4 : Hid (Sty (fun k => w2.heap.size ≤ k) w4 (fun W => TxsAt W (.slice (some ⟨gt, 0, none⟩) 1 1) [startT])) := fun W hW => by
    have h1 := row_kps NT.out hW GTL.out
    have h2 := TA4.out W hW
    rw [HCT.out] at h1 h2
    exact txsAt_one h1 h2
  have RC := rooted_any startX0 (.slice (some ⟨gt, 0, none⟩) 1 1) w4 startH_ok TX4.out.now startX0_small
  obtain ⟨hd, hhd⟩ : ∃ hd, hd = ({ startX0.head with root := blRoot startX0 } : THd) := ⟨_, rfl⟩
  rw [← hhd] at RC
  have HOK : Hid (HdOk hd) := by show HdOk _; rw [hhd]; exact startX_ok
  have ON2 : Hid ((blL hd (.slice (some ⟨gt, 0, none⟩) 1 1)).toArray.all (·.oneCell') = true) := blL_one rfl
  have LS2 : Hid ((blL hd (.slice (some ⟨gt, 0, none⟩) 1 1)).toArray.size = 69) := blL_size HOK.out _
  obtain ⟨ds, hds⟩ : ∃ ds, ds = blL hd (.slice (some ⟨gt, 0, none⟩) 1 1) := ⟨_, rfl⟩
  rw [← hds] at ON2 LS2 RC
  obtain ⟨cs, hcs⟩ : ∃ cs, cs = blL startX0.head (.slice (some ⟨gt, 0, none⟩) 1 1) := ⟨_, rfl⟩
  rw [← hcs] at RC
  rw [show blL startH (.slice (some ⟨gt, 0, none⟩) 1 1) = cs from hcs.symm]
  have HDS := Lib.hid hds
  have HHD := Lib.hid hhd
  clear hds hhd hcs
  refine RC.mono ?_
  rintro e w5 ⟨rfl, hb5⟩
  have N5 := Lib.hid hb5
  have B5 := Lib.hid (B4.out.trans (hb5.mono B4.out.size))
  have FR5 := Lib.hid (row_below F4.out hb5)
  clear hb5 RC
  go_wp2_with ((with_reducible show wpList _ _ _ _ _ _); (refine wpList_store_row rfl 71 (.tmp 0) (.tmp 6) rfl w.heap.size ds.toArray rfl rfl 71 _ FR5.out (by rw [LS2.out]; kernel_rfl) (by rw [LS2.out]; kernel_rfl) ON2.out ?_; go_frame))
  refine bodyPost_ret (results_cell_row rfl _ _ w.heap.size 71 ds.toArray (0, 0) _ rfl (setRow_heap _ _ _ _ _ _ FR5.out) Tryz.underlying71 rfl (by rw [LS2.out]; kernel_rfl)) rfl ?_
  have G8 : w5.grownBy (w5.setRow w.heap.size ds.toArray) (some w.heap.size) := setRow_grown _
  refine ⟨_, rfl, ⟨startX_ok, .slice (some ⟨gt, 0, none⟩) 1 1, ?_, ?_⟩, B5.out.grown G8 B5.out.size (fun k hk => by cases hk; exact Nat.le_refl _)⟩
  · rw [HDS.out, HHD.out]
    rfl
  · exact TX4.out _ ((Kps.new N5.out).trans (Kps.grown G8 (fun k _ h e => by have := Option.some.inj e; have := LW2.out; omega)))
end Go.Proofs.YtckkcpplanfmhaaGreatDoor.Sha
