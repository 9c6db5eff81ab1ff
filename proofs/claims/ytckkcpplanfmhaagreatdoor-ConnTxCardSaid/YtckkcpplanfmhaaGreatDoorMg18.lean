/-
  Texts of this proof joined into one file: CoEarly, VlFlt, CoTx, RuM, MkRules, CoFirst. What each holds, and under which conditions, its own first sentence tells.
-/
import Derived.Test.YtckkcpplanfmhaaGreatDoorMg17
import Derived.Test.YtckkcpplanfmhaaGreatDoorMg13
import Derived.Test.YtckkcpplanfmhaaGreatDoorMg06
import Derived.Test.YtckkcpplanfmhaaGreatDoorMg14
import Derived.Test.YtckkcpplanfmhaaGreatDoorMg11
import Derived.Test.YtckkcpplanfmhaaGreatDoorMg01
import Derived.Test.YtckkcpplanfmhaaGreatDoorMg05
import Derived.Test.YtckkcpplanfmhaaGreatDoorMg15
import Derived.Test.YtckkcpplanfmhaaGreatDoorMg03
/-
  Package conn: whether a transaction comes too early. Nothing that was there turns. Conditions: the transaction, its coins and the pasts lie in memory; heights from 0 to a million.
-/
namespace Go.Proofs.YtckkcpplanfmhaaGreatDoor.Sha
open Go Go.RowKit
def CeI (hs : List Int) (ps : List Nat) (n base : Nat) (w : World) (vh vp vi : Value) (wr : World) : Prop :=
  ∃ (k : Nat) (hv pv : Value), hv = vh ∧ pv = vp ∧ vi = .int .i64 (k : Int) ∧ k ≤ n ∧ RwOwn 1 3 base wr hv ((hs.take k).map intC) ∧ RwOwn 1 23 base wr pv ((ps.take k).map u32C) ∧ Below w.heap.size w wr
set_option maxHeartbeats 4000000 in
set_option maxRecDepth 100000 in
theorem coearly_any (w : World) (v vm vp : Value) (t : TTx) (ms : List TMn) (ps : List Nat) (h : TxAt w v t) (hh : RwAt 35 w vm (ms.map mnL)) (hp : U32At w vp ps) (hl : ms.length = t.ins.length) (hok : ∀ m ∈ ms, MnOk m) (hhe : ∀ m ∈ ms, 0 ≤ m.height ∧ m.height ≤ 1000000) (hm : t.ins.length ≤ 1000000) (hp0 : 0 < ps.length) (hpm : ps.length ≤ 1000000) (hpb : ∀ p ∈ ps, p ≤ 4294967295) :
    Calls Tryz.prog 36 #[v, vm, vp] w fun e w' => e = .returned (.bool (!(finB t (ps.length : Int) (ps.getD (ps.length - 1) 0) && metB t (ms.map (·.height)) (pzL ms ps) (ps.length : Int) (ps.getD (ps.length - 1) 0)))) ∧ Below w.heap.size w w' := by
  obtain ⟨i0, hi, hz0, hz1, hz2⟩ := info_parts info_int
  obtain ⟨u0, hu, hy0, hy1, hy2⟩ := info_parts info_u32
  have h0 := h
  obtain ⟨_, iv, ov, rfl, hin, hou⟩ := h
  have LT : Hid ((txL t iv ov).toArray.size = 4) := rfl
  obtain ⟨past, hpast⟩ : ∃ p, p = ps.getD (ps.length - 1) 0 := ⟨_, rfl⟩
  have pastb : past ≤ 4294967295 := by
    rw [hpast, List.getD_eq_getElem?_getD]
    cases hj : ps[ps.length - 1]? with
    | none => simp
    | some p => exact hpb p (List.mem_of_getElem? hj)
  have FIN : Hid (∀ W, Below w.heap.size w W → Calls Tryz.prog 73 #[.agg (txL t iv ov).toArray, .int .i64 (ps.length : Int), .int .u32 (past : Int)] W fun e w' => e = .returned (.bool (finB t (ps.length : Int) past)) ∧ Below W.heap.size W w') := fun W hW => sqfinal_any W _ t (ps.length : Int) past (h0.below hW) hm
  have MET : Hid (∀ W vh vp, Below w.heap.size w W → RwAt 1 W vh ((ms.map (·.height)).map intC) → RwAt 1 W vp ((pzL ms ps).map u32C) → Calls Tryz.prog 74 #[.agg (txL t iv ov).toArray, vh, vp, .int .i64 (ps.length : Int), .int .u32 (past : Int)] W fun e w' => e = .returned (.bool (metB t (ms.map (·.height)) (pzL ms ps) (ps.length : Int) past)) ∧ Below W.heap.size W w') := fun W vh vp hW x1 x2 => by
    rw [← sqmet_met (t := t) (hs := ms.map (·.height)) (ps := pzL ms ps) (ht := (ps.length : Int)) (past := past) (fun x hx => by obtain ⟨m, hmm, rfl⟩ := List.mem_map.1 hx; have := hhe m hmm; show 0 ≤ m.height ∧ m.height ≤ 1099511627776; omega)]
    exact sqmet_any W _ vh vp t _ _ (ps.length : Int) past (h0.below hW) x1 x2 (by rw [List.length_map]; exact hl) (by unfold pzL; rw [List.length_map]; exact hl) hm (fun x hx => by obtain ⟨m, hmm, rfl⟩ := List.mem_map.1 hx; have := hhe m hmm; show -1 ≤ m.height ∧ m.height ≤ 1099511627776; omega) (fun p hp => by
      obtain ⟨m, _, rfl⟩ := List.mem_map.1 hp
      show ps.getD (behI ps m.height) 0 ≤ _
      rw [List.getD_eq_getElem?_getD]
      cases hj : ps[behI ps m.height]? with
      | none => simp
      | some p => exact hpb p (List.mem_of_getElem? hj)) pastb
  have BEH : Hid (∀ W m, m ∈ ms → Below w.heap.size w W → Calls Tryz.prog 72 #[.int .i64 m.height, vp] W fun e w' => e = .returned (.int .u32 (ps.getD (behI ps m.height) 0 : Int)) ∧ W = w') := fun W m hmm hW => copb_any W vp ps m.height (hp.below hW) hp0 hpm (by have := hhe m hmm; omega) (hhe m hmm).2
  obtain ⟨sq, cq, rfl, hsq⟩ := hp
  obtain ⟨hcq, bq, oq, rfl, hgq⟩ := hsq hp0
  have PC : Hid (∀ W, Below w.heap.size w W → W.cell? ⟨bq, oq + (ps.length - 1), none⟩ = some (.int .u32 (past : Int))) := fun W hW => by
    refine cell_below (hgq _ past ?_) hW
    rw [hpast, List.getD_eq_getElem?_getD, List.getElem?_eq_getElem (by omega)]
    rfl
  rw [← hpast]
  obtain ⟨np, hnp⟩ : ∃ np, np = ps.length := ⟨_, rfl⟩
  rw [← hnp] at PC hp0 hpm FIN MET
  obtain ⟨sm, cm, rfl⟩ := hh.shape
  simp only [List.length_map] at hh ⊢
  obtain ⟨n, hn⟩ : ∃ n, n = t.ins.length := ⟨_, rfl⟩
  rw [← hn] at hm hl
  rw [hl] at hh ⊢
  rw [← hnp] at BEH ⊢
  have NM := Lib.hid hl
  have HH := Lib.hid hh
  have MO := Lib.hid hok
  obtain ⟨hsL, hhs⟩ : ∃ l, l = ms.map (·.height) := ⟨_, rfl⟩
  obtain ⟨pzl, hpz⟩ : ∃ l, l = pzL ms ps := ⟨_, rfl⟩
  rw [← hhs, ← hpz] at MET ⊢
  have HSE := Lib.hid hhs
  have PZE : Hid (pzl = ms.map fun m => ps.getD (behI ps m.height) 0) := hpz
  obtain ⟨fb, hfb⟩ : ∃ fb, fb = finB t (np : Int) past := ⟨_, rfl⟩
  obtain ⟨mb, hmb⟩ : ∃ mb, mb = metB t hsL pzl (np : Int) past := ⟨_, rfl⟩
  rw [← hfb] at FIN ⊢
  rw [← hmb] at MET ⊢
  have NB := Lib.hid hm
  have NP := Lib.hid hpm
  obtain ⟨ct, hct⟩ : ∃ ct, ct = txL t iv ov := ⟨_, rfl⟩
  rw [← hct] at LT FIN MET ⊢
  have SZ := Lib.hid (show 0 < np ∧ np ≤ cq from ⟨hp0, by omega⟩)
  clear hn hl hh hok hhs hpz hfb hmb hct hou h0 hin hpast hsq hgq hcq hnp hhe hpb pastb
  go_enter Tryz.func36, Tryz.ntmps36
  go_upto_region 1 with fail
  have f3 := heap_alloc_new w (.cells ct.toArray 27 (0, 0))
  have b1 := (Below.refl w.heap.size w).alloc (Nat.le_refl _) (.cells ct.toArray 27 (0, 0))
  generalize hw1 : World.alloc _ _ = w1
  have e1 : w.alloc (.cells ct.toArray 27 (0, 0)) = w1 := hw1
  rw [e1] at f3 b1
  obtain ⟨g3, hg3⟩ : ∃ g, g = w.heap.size := ⟨_, rfl⟩
  rw [← hg3] at f3 ⊢
  have F3 := Lib.hid f3
  have B1 := Lib.hid b1
  clear f3 b1 hw1 e1 hg3
  obtain ⟨base, hbase⟩ : ∃ base, base = w1.heap.size := ⟨_, rfl⟩
  have BS := Lib.hid hbase
  have bs0 : base ≤ w1.heap.size := by omega
  clear hbase
  obtain ⟨nq, hnq⟩ : ∃ nq, nq = np - 1 := ⟨_, rfl⟩
  have wq : IntKind.i64.wrap ((np : Int) - 1) = (nq : Int) := by rw [IntKind.wrap_i64]; omega
  have wq2 : wrap64 ((np : Int) - 1) = (nq : Int) := by rw [← IntWalk.i64_left]; exact wq
  have nq0 : 0 ≤ (nq : Int) := by omega
  have nq1 : (nq : Int) < (np : Int) := by omega
  rw [← hnq] at PC
  have cp := PC.out w1 B1.out
  have nn := NB.out
  clear hnq hp0 hpm
  go_upto_region 3 with fail
  clear cp wq wq2 nq0 nq1
  go_upto_region 4 with (at_make; refine wpList_make_own _ rfl _ _ 109 rfl base 3 i0 (.int .i64 0) 1 Tryz.underlying109 hi hz0 hz1 _ _ _ n rfl rfl (by omega) (by rw [hz2]; omega) (by unfold maxLen; omega) bs0 ?_; intro w2 hown hgrow; have HO : Hid (RwOwn 1 3 base w2 _ []) := ⟨hown, fun x hx => (by cases hx)⟩; have B2 := Lib.hid (below_made hgrow); have bs2 : base ≤ w2.heap.size := Nat.le_trans bs0 B2.out.size; clear hown hgrow; go_frame)
  go_upto_region 5 with (at_make; refine wpList_make_own _ rfl _ _ 28 rfl base 23 u0 (.int .u32 0) 1 Tryz.underlying28 hu hy0 hy1 _ _ _ n rfl rfl (by omega) (by rw [hy2]; omega) (by unfold maxLen; omega) bs2 ?_; intro w3 hown hgrow; have PO : Hid (RwOwn 1 23 base w3 _ []) := ⟨hown, fun x hx => (by cases hx)⟩; have HO := Lib.hid (HO.out.keep (below_made hgrow)); have B2 := Lib.hid (B2.out.trans ((below_made hgrow).mono B2.out.size)); clear hown hgrow; go_frame)
  go_wp2_with fail
  go_loopw [9, 10, 28] (fun vh vp vi wr => CeI hsL pzl n base w1 vh vp vi wr) (fun _ _ vi _ => n - (intOf vi).toNat)
  case atStart => exact ⟨0, _, _, rfl, rfl, rfl, Nat.zero_le _, by simpa using HO.out, by simpa using PO.out, B2.out⟩
  case round =>
    clear HO PO B2 bs0 bs2
    obtain ⟨k, hv, pv, rfl, rfl, rfl, hk, hrh, hrp, hbel⟩ := hrel
    have HV := Lib.hid hrh
    have PV := Lib.hid hrp
    have B := Lib.hid hbel
    have BB := Lib.hid (B1.out.trans (hbel.mono B1.out.size))
    clear hrh hrp hbel
    by_cases hlt : k < n
    · obtain ⟨m, hmk⟩ : ∃ m, ms[k]? = some m := ⟨_, List.getElem?_eq_getElem (by rw [NM.out]; exact hlt)⟩
      obtain ⟨bm, om, rfl, hgm⟩ := (HH.out.below BB.out).get (by omega)
      have RM := Lib.hid (hgm k (mnL m) (by rw [List.getElem?_map, hmk]; rfl))
      have mmem := List.mem_of_getElem? hmk
      have om1 := MO.out m mmem
      have LC : Hid ((mnL m).length = 35) := mnL_length om1
      have LC' : Hid ((mnL m).toArray.size = 35) := mnL_size om1
      have ONE : Hid ((mnL m).toArray.all (·.oneCell') = true) := mnL_all m
      obtain ⟨hm1, hhm1⟩ : ∃ x, x = m.height := ⟨_, rfl⟩
      obtain ⟨pm1, hpm1⟩ : ∃ x, x = ps.getD (behI ps m.height) 0 := ⟨_, rfl⟩
      have CH : Hid (∀ (W : World) (g : Nat), W.heap[g]? = some (.cells (mnL m).toArray 46 (0, 0)) → W.cell? ⟨g, 33, none⟩ = some (.int .i64 hm1)) := fun W g hg => by
        have h := mn_height om1.1 (range_of_box hg)
        rw [Nat.zero_add] at h
        rw [hhm1]
        exact h
      have BE : Hid (∀ W, Below w.heap.size w W → Calls Tryz.prog 72 #[.int .i64 hm1, .slice (some ⟨bq, oq, none⟩) np cq] W fun e w' => e = .returned (.int .u32 (pm1 : Int)) ∧ W = w') := fun W hW => by rw [hhm1, hpm1]; exact BEH.out W m mmem hW
      have HT : Hid (hsL.take (k + 1) = hsL.take k ++ [hm1]) := by
        have e : hsL[k]? = some hm1 := by rw [HSE.out, List.getElem?_map, hmk, hhm1]; rfl
        show _ = _
        rw [List.take_succ_eq_append_getElem (List.getElem?_eq_some_iff.1 e).1, (List.getElem?_eq_some_iff.1 e).2]
      have PT : Hid (pzl.take (k + 1) = pzl.take k ++ [pm1]) := by
        have e : pzl[k]? = some pm1 := by rw [PZE.out, List.getElem?_map, hmk, hpm1]; rfl
        show _ = _
        rw [List.take_succ_eq_append_getElem (List.getElem?_eq_some_iff.1 e).1, (List.getElem?_eq_some_iff.1 e).2]
      obtain ⟨ct7, hct7⟩ : ∃ ct7, ct7 = mnL m := ⟨_, rfl⟩
      rw [← hct7] at RM LC LC' ONE CH
      have zs : Hid ((mnL mnZ).toArray.size = ct7.toArray.size) := by show _ = _; rw [LC'.out]; rfl
      have DH : Hid (((hsL.take k).map intC).length ≤ 1000000) := by show _ ≤ _; rw [List.length_map, List.length_take]; omega
      have DP : Hid (((pzl.take k).map u32C).length ≤ 1000000) := by show _ ≤ _; rw [List.length_map, List.length_take]; omega
      have i0' : 0 ≤ (k : Int) := by omega
      have i1' : (k : Int) < (n : Int) := by omega
      clear hmk hgm mmem om1 hhm1 hpm1 hct7
      go_upto_region 8 with ((with_reducible show wpList _ _ _ _ _ _); first | (refine wpList_load_mid rfl 46 (.tmp 30) rfl bm (om + k * 35) rfl ct7 _ RM.out Tryz.underlying46 rfl (by rw [LC.out]; kernel_rfl) ?_; go_frame) | (refine wpList_store_row rfl 46 (.tmp 12) (.tmp 31) rfl wr.heap.size ct7.toArray rfl rfl 46 _ (heap_alloc_new _ _) (by rw [LC'.out]; kernel_rfl) (by rw [LC'.out]; rfl) ONE.out ?_; go_frame))
      obtain ⟨_, f2, f3, f4⟩ := fill_setup (Below.refl wr.heap.size wr) (mnL mnZ).toArray ct7.toArray 46
      generalize hqw5 : World.setRow _ _ _ = w5
      have ew5 : World.setRow (wr.alloc (.cells (mnL mnZ).toArray 46)) wr.heap.size ct7.toArray = w5 := hqw5
      rw [ew5] at f2 f3 f4
      obtain ⟨g12, hg12⟩ : ∃ g12, g12 = wr.heap.size := ⟨_, rfl⟩
      rw [← hg12] at f2 ⊢
      have F12 := Lib.hid f2
      have Ng12 : Hid (wr.heap.size ≤ g12) := by show _ ≤ _; rw [hg12]; exact Nat.le_refl _
      have HV := Lib.hid (HV.out.keep f4)
      have PV := Lib.hid (PV.out.keep f4)
      have B := Lib.hid (B.out.trans (f4.mono B.out.size))
      have BB := Lib.hid (BB.out.trans (f4.mono BB.out.size))
      clear f2 f3 f4 hqw5 ew5 hg12
      have ch := CH.out _ _ F12.out
      go_upto_region 9 with (at_builtin; refine wpList_append_own_at _ rfl _ _ 109 rfl base 3 i0 (.int .i64 0) 1 8 Tryz.underlying109 hi hz0 hz1 hz2 rfl (by decide) hv _ ((hsL.take k).map intC).flatten rfl (HV.out.1.alloc _) ⟨w5.heap.size, 0, none⟩ 1 1 [.int .i64 hm1] rfl rfl (cell_one_new _ _ _) (fun u hu => by obtain rfl := List.mem_singleton.1 hu; rfl) (by have := DH.out; unfold maxLen; omega) (by have := DH.out; omega) (by have := BS.out; have := B.out.size; simp; omega) ?_; intro v3 w6 q1 q2 _ q4; have HV3 : Hid (RwOwn 1 3 base w6 v3 (((hsL.take k).map intC) ++ [intC hm1])) := RwOwn.push HV.out.2 rfl q1; have al := (Below.refl w5.heap.size w5).alloc (Nat.le_refl _) (.cells #[.int .i64 hm1] 3 (0, 0)); have PV3 := Lib.hid ((PV.out.keep al).kept q2 (ne_swap (own_diff HV.out PV.out))); have B3 := Lib.hid (own_grown (B.out.alloc B.out.size _) (by rw [BS.out]; exact Nat.le_refl _) (by have := B.out.size; simp; omega) (HV.out.1.alloc _) q2); have F12b := Lib.hid (row_far (row_below F12.out al) q2 (own_ne' (HV.out.keep al).1 (row_below F12.out al) (by decide))); clear q1 q2 q4 al; go_frame)
      have BZ3 := Lib.hid (B1.out.trans (B3.out.mono B1.out.size))
      clear ch
      have ch := CH.out _ _ F12b.out
      clear HV PV B F12
      go_wp2_with fail
      refine (BE.out w6 BZ3.out).mono ?_
      rintro e w7 ⟨rfl, rfl⟩
      go_wp2_with (at_builtin; refine wpList_append_own_at _ rfl _ _ 28 rfl base 23 u0 (.int .u32 0) 1 4 Tryz.underlying28 hu hy0 hy1 hy2 rfl (by decide) pv _ ((pzl.take k).map u32C).flatten rfl (PV3.out.1.alloc _) ⟨w6.heap.size, 0, none⟩ 1 1 [.int .u32 (pm1 : Int)] rfl rfl (cell_one_new _ _ _) (fun u hu => by obtain rfl := List.mem_singleton.1 hu; rfl) (by have := DP.out; unfold maxLen; omega) (by have := DP.out; omega) (by have := BS.out; have := B3.out.size; simp; omega) ?_; intro v4 w8 q1 q2 _ q4; have PV4 : Hid (RwOwn 1 23 base w8 v4 (((pzl.take k).map u32C) ++ [u32C pm1])) := RwOwn.push PV3.out.2 rfl q1; have al := (Below.refl w6.heap.size w6).alloc (Nat.le_refl _) (.cells #[.int .u32 (pm1 : Int)] 23 (0, 0)); have HV4 := Lib.hid ((HV3.out.keep al).kept q2 (own_diff HV3.out PV3.out)); have B5 := Lib.hid (own_grown (B3.out.alloc B3.out.size _) (by rw [BS.out]; exact Nat.le_refl _) (by have := B3.out.size; simp; omega) (PV3.out.1.alloc _) q2); clear q1 q2 q4 al; go_frame)
      go_roundw
      case rel =>
        refine ⟨k + 1, v3, v4, rfl, rfl, by go_num, by omega, ?_, ?_, B5.out⟩
        · rw [HT.out, List.map_append]
          exact HV4.out
        · rw [PT.out, List.map_append]
          exact PV4.out
      case measure => simp [intOf] <;> omega
    · have hkn : k = n := by omega
      have HVA : Hid (RwAt 1 wr hv (hsL.map intC)) := by
        have h := HV.out
        rw [hkn, List.take_of_length_le (by rw [HSE.out, List.length_map, NM.out]; exact Nat.le_refl _)] at h
        exact h.at (by omega)
      have PVA : Hid (RwAt 1 wr pv (pzl.map u32C)) := by
        have h := PV.out
        rw [hkn, List.take_of_length_le (by rw [PZE.out, List.length_map, NM.out]; exact Nat.le_refl _)] at h
        exact h.at (by omega)
      have i1' : ¬ (k : Int) < (n : Int) := by omega
      have F3R := Lib.hid (row_below F3.out B.out)
      clear hkn hlt HV PV
      go_wp2_with ((with_reducible show wpList _ _ _ _ _ _); (refine wpList_load_row rfl 27 (.tmp 3) rfl g3 rfl 27 ct.toArray (0, 0) _ F3R.out Tryz.underlying27 rfl (by rw [LT.out]; kernel_rfl) ?_; go_frame))
      refine (FIN.out wr BB.out).mono ?_
      rintro e w8 ⟨rfl, bb⟩
      have F3R := Lib.hid (row_below F3R.out bb)
      have BZ := Lib.hid (BB.out.trans (bb.mono BB.out.size))
      have HVA := Lib.hid (HVA.out.below bb)
      have PVA := Lib.hid (PVA.out.below bb)
      clear bb
      cases fb with
      | false =>
        go_wp2_with fail
        go_ret
        exact ⟨rfl, BZ.out⟩
      | true =>
        go_wp2_with ((with_reducible show wpList _ _ _ _ _ _); (refine wpList_load_rowG 27 (.tmp 3) rfl g3 rfl 27 ct.toArray (0, 0) _ F3R.out Tryz.underlying27 rfl (by rw [LT.out]; kernel_rfl) (by first | rfl | kernel_rfl) ?_; go_frame))
        refine (MET.out w8 hv pv BZ.out HVA.out PVA.out).mono ?_
        rintro e w9 ⟨rfl, bb⟩
        have BY := Lib.hid (BZ.out.trans (bb.mono BZ.out.size))
        clear bb
        cases mb with
        | false =>
          go_wp2_with fail
          go_ret
          exact ⟨rfl, BY.out⟩
        | true =>
          go_wp2_with fail
          go_ret
          exact ⟨rfl, BY.out⟩
end Go.Proofs.YtckkcpplanfmhaaGreatDoor.Sha

/-
  An error that is the document's fault is told as that. Conditions: the errors are there.
-/
namespace Go.Proofs.YtckkcpplanfmhaaGreatDoor.Sha
open Go Go.RowKit
theorem same_flt (E : Nat → Addr) (r : Nat × Option Nat) (v : Value) (w : World) (hE : Errs w E) (hr : r.1 ≤ 25) (hf : FltV w E v r) :
    Calls Tryz.prog 14 #[v, .agg (fltL r).toArray] w fun e w' => e = .returned (.bool true) ∧ Below w.heap.size w w' := by
  obtain ⟨c, o⟩ := r
  rcases hf with ⟨h1, h2⟩ | ⟨q, p, g, h1, h2, h3⟩
  · obtain rfl : o = none := h1
    obtain rfl : v = errV E c := h2
    exact same_err E c (numE c) true (by simp) w hE hr
  · cases h1
    exact same_at E q p v w hE (by have : q + 1 ≤ 25 := hr; omega) (.inr ⟨q, p, g, rfl, h2, h3⟩)
theorem fltL_len : ∀ r : Nat × Option Nat, (fltL r).toArray.size = 5
  | (_, none) => rfl
  | (_, some _) => rfl
theorem fltL_all : ∀ r : Nat × Option Nat, (fltL r).toArray.all (·.oneCell') = true
  | (_, none) => fault_all _
  | (_, some _) => placed_all _ _
end Go.Proofs.YtckkcpplanfmhaaGreatDoor.Sha

/-
  Package conn: a transaction's fee over any keeper of coins, or what is amiss first. Nothing that was there turns. Conditions: the transaction and the pasts lie in memory; the errors and the table of the rounds' words are there.
-/
namespace Go.Proofs.YtckkcpplanfmhaaGreatDoor.Sha
open Go Go.RowKit
set_option maxHeartbeats 1000000 in
set_option maxRecDepth 100000 in
theorem coas_any (w : World) (height : Int) (sp : Option Addr) (n cap : Nat) :
    Calls Tryz.prog 33 #[.int .i64 height, .slice sp n cap] w fun e w' => e = .returned (.bool (decide (1 ≤ height ∧ (n : Int) = height))) ∧ w = w' := by
  go_enter Tryz.func33, Tryz.ntmps33
  by_cases h1 : height ≥ 1
  · by_cases h2 : (n : Int) = height
    · have q1 : ((n : Int) == height) = true := by simpa using h2
      have q2 : decide (1 ≤ height ∧ (n : Int) = height) = true := decide_eq_true ⟨h1, h2⟩
      have h3 : 1 ≤ height := h1
      rw [q2]
      go_wp2_with fail
      go_ret
      exact ⟨rfl, rfl⟩
    · have q1 : ((n : Int) == height) = false := beq_eq_false_iff_ne.2 h2
      have q2 : decide (1 ≤ height ∧ (n : Int) = height) = false := decide_eq_false fun h => h2 h.2
      have h3 : 1 ≤ height := h1
      rw [q2]
      go_wp2_with fail
      go_ret
      exact ⟨rfl, rfl⟩
  · have q2 : decide (1 ≤ height ∧ (n : Int) = height) = false := decide_eq_false fun h => h1 h.1
    have h3 : ¬ 1 ≤ height := h1
    rw [q2]
    go_wp2_with fail
    go_ret
    exact ⟨rfl, rfl⟩
theorem flt_nil {w : World} {E : Nat → Addr} {u : Value} {r : Nat × Option Nat} (h : FltV w E u r) : (r.1 = 0 ∧ u = .nilIface) ∨ (r.1 ≠ 0 ∧ ∃ t x, u = .iface t x ∧ (t = 250 ∨ t = 142)) := by
  obtain ⟨c, p⟩ := r
  rcases h with ⟨_, rfl⟩ | ⟨q, p', g, h1, rfl, _⟩
  · cases c with
    | zero => exact .inl ⟨rfl, rfl⟩
    | succ q => exact .inr ⟨Nat.succ_ne_zero q, _, _, rfl, .inl rfl⟩
  · cases h1
    exact .inr ⟨Nat.succ_ne_zero q, _, _, rfl, .inr rfl⟩
set_option maxHeartbeats 4000000 in
set_option maxRecDepth 100000 in
theorem cotx_any (E : Nat → Addr) (w : World) (v vp : Value) (t : TTx) (ty : TypeId) (rv : Value) (fg : Nat) (get : TPt → Option TMn) (height mat : Int) (ps : List Nat) (h : TxAt w v t) (hG : GetE w ty rv fg get) (hp : U32At w vp ps) (hm : t.ins.length ≤ 1000000) (hmo : t.outs.length ≤ 1000000) (hpm : ps.length ≤ 1000000) (hpb : ∀ p ∈ ps, p ≤ 4294967295) (hmat : -1000000 ≤ mat ∧ mat ≤ 9223372036853775807) (hE : CoE w E) (hK : ∀ W, Below w.heap.size w W → KTab W) :
    Calls Tryz.prog 10 #[v, .iface ty rv, .int .i64 height, vp, .int .i64 mat] w fun e w' => ∃ u, e = .returned (.tuple #[.int .u64 ((coR t (msG get t) (isG get t) height ps mat).1 : Int), u]) ∧ FltV w' E u (coR t (msG get t) (isG get t) height ps mat).2 ∧ Below w.heap.size w w' := by
  have h0 := h
  have HG := Lib.hid hG
  obtain ⟨_, iv, ov, rfl, hin, hou⟩ := h
  have LT : Hid ((txL t iv ov).toArray.size = 4) := rfl
  obtain ⟨ms, hms⟩ : ∃ l, l = msG get t := ⟨_, rfl⟩
  have MN : ms.length = t.ins.length := by rw [hms]; exact (msG_len get t).1
  have MO : ∀ m ∈ ms, MnOk m ∧ 0 ≤ m.height ∧ m.height ≤ 1000000 := fun m hmm => by
    rw [hms] at hmm
    obtain ⟨x, _, rfl⟩ := List.mem_map.1 hmm
    exact hG.okD (ptOf x)
  have CC : Hid (∀ W, Below w.heap.size w W → Calls Tryz.prog 34 #[.agg (txL t iv ov).toArray, .iface ty rv, .int .i64 height, .int .i64 mat] W (CcP W E (tuB ms (isG get t) height mat) ms)) := fun W hW => by rw [hms]; exact cocoins_any E W _ t ty rv fg get height mat (h0.below hW) (hG.below hW) hm hmat (hE.below hW)
  have FEE : Hid (∀ W v', Below w.heap.size w W → RwAt 35 W v' (ms.map mnL) → Calls Tryz.prog 35 #[.agg (txL t iv ov).toArray, v'] W fun e w' => ∃ u, e = .returned (.tuple #[.int .u64 ((feeR t ms).1 : Int), u]) ∧ FltV w' E u (feeR t ms).2 ∧ Below W.heap.size W w') := fun W v' hW hr => vlfee_any E W _ v' t ms (h0.below hW) hr (fun m hmm => (MO m hmm).1) hm (by rw [MN]; exact hm) hmo (hE.below hW).fee (fun W2 hW2 => hK W2 (hW.trans (hW2.mono hW.size)))
  obtain ⟨eb, heb⟩ : ∃ b, b = (finB t height (ps.getD (ps.length - 1) 0) && metB t (ms.map (·.height)) (pzL ms ps) height (ps.getD (ps.length - 1) 0)) := ⟨_, rfl⟩
  have EAR : Hid (1 ≤ height ∧ (ps.length : Int) = height → ∀ W v', Below w.heap.size w W → RwAt 35 W v' (ms.map mnL) → Calls Tryz.prog 36 #[.agg (txL t iv ov).toArray, v', vp] W fun e w' => e = .returned (.bool (!eb)) ∧ Below W.heap.size W w') := fun hc W v' hW hr => by
    rw [heb, ← hc.2]
    exact coearly_any W _ v' vp t ms ps (h0.below hW) hr (hp.below hW) MN (fun m hmm => (MO m hmm).1) (fun m hmm => (MO m hmm).2) hm (by omega) hpm hpb
  obtain ⟨sp, cap, rfl, _⟩ := hp
  have FE : Hid (coR t ms (isG get t) height ps mat = if (1 ≤ height ∧ (ps.length : Int) = height) then coV t ms (isG get t) height ps mat else (0, 2, none)) := rfl
  obtain ⟨B0, hB0⟩ : ∃ B, B = tuB ms (isG get t) height mat := ⟨_, rfl⟩
  have FV : Hid (coV t ms (isG get t) height ps mat = match B0.findIdx? (fun b => !(b.1 && b.2)) with | some i => (0, if (B0.getD i (true, true)).1 then 15 else 13, some i) | none => coW t ms height ps) := by rw [hB0]; rfl
  have FW : Hid (coW t ms height ps = if (feeR t ms).2.1 ≠ 0 then (0, (feeR t ms).2) else if eb = false then (0, 16, none) else feeR t ms) := by rw [heb]; rfl
  rw [← hB0] at CC
  rw [← hms]
  obtain ⟨R, hR⟩ : ∃ R, R = coR t ms (isG get t) height ps mat := ⟨_, rfl⟩
  rw [← hR] at FE ⊢
  obtain ⟨fr, hfr⟩ : ∃ fr, fr = feeR t ms := ⟨_, rfl⟩
  rw [← hfr] at FW FEE
  obtain ⟨np, hnp⟩ : ∃ np, np = ps.length := ⟨_, rfl⟩
  rw [← hnp] at FE EAR ⊢
  have HE := Lib.hid hE
  obtain ⟨ct, hct⟩ : ∃ ct, ct = txL t iv ov := ⟨_, rfl⟩
  rw [← hct] at LT CC FEE EAR ⊢
  clear hms MN MO hB0 hR hfr hnp hct heb hin hou h0 hm hmo hpm hpb hmat hE hK hG
  go_enter Tryz.func10, Tryz.ntmps10
  go_upto_region 1 with fail
  have f5 := heap_alloc_new w (.cells ct.toArray 27 (0, 0))
  have b1 := (Below.refl w.heap.size w).alloc (Nat.le_refl _) (.cells ct.toArray 27 (0, 0))
  generalize hw1 : World.alloc _ _ = w1
  have e1 : w.alloc (.cells ct.toArray 27 (0, 0)) = w1 := hw1
  rw [e1] at f5 b1
  obtain ⟨g5, hg5⟩ : ∃ g, g = w.heap.size := ⟨_, rfl⟩
  rw [← hg5] at f5 ⊢
  have F5 := Lib.hid f5
  have B1 := Lib.hid b1
  clear f5 b1 hw1 e1 hg5
  go_wp2_with fail
  refine (coas_any w1 height sp np cap).mono ?_
  rintro e w2 ⟨rfl, rfl⟩
  by_cases hc : 1 ≤ height ∧ (np : Int) = height
  · have hd : decide (1 ≤ height ∧ (np : Int) = height) = true := decide_eq_true hc
    have RV : Hid (R = coV t ms (isG get t) height ps mat) := by show _ = _; rw [FE.out, if_pos hc]
    have EA := Lib.hid (EAR.out hc)
    rw [hd]
    clear hd hc FE EAR
    go_wp2_with ((with_reducible show wpList _ _ _ _ _ _); (refine wpList_load_row rfl 27 (.tmp 5) rfl g5 rfl 27 ct.toArray (0, 0) _ F5.out Tryz.underlying27 rfl (by rw [LT.out]; kernel_rfl) ?_; go_frame))
    refine (CC.out w1 B1.out).mono ?_
    rintro e w2 ⟨⟨i, u, hfi, rfl, hfl⟩ | ⟨v', hfi, rfl, hrw⟩, bb⟩
    · have RX : Hid (R = (0, if (B0.getD i (true, true)).1 then 15 else 13, some i)) := by show _ = _; rw [RV.out, FV.out, hfi]
      have BZ := Lib.hid (B1.out.trans (bb.mono B1.out.size))
      have FL := Lib.hid hfl
      rcases flt_nil hfl with ⟨hz, _⟩ | ⟨_, ty', x', rfl, hty⟩
      · exfalso
        have hz : (if (B0.getD i (true, true)).1 then 15 else 13 : Nat) = 0 := hz
        split at hz <;> omega
      clear hfi hfl bb RV
      rcases hty with rfl | rfl
      · go_wp2_with fail
        go_ret2
        exact ⟨_, by rw [RX.out]; rfl, by rw [RX.out]; exact FL.out, BZ.out⟩
      · go_wp2_with fail
        go_ret2
        exact ⟨_, by rw [RX.out]; rfl, by rw [RX.out]; exact FL.out, BZ.out⟩
    · have RX : Hid (R = coW t ms height ps) := by show _ = _; rw [RV.out, FV.out, hfi]
      have BZ := Lib.hid (B1.out.trans (bb.mono B1.out.size))
      have F5R := Lib.hid (row_below F5.out bb)
      have MR := Lib.hid hrw
      clear hfi hrw bb RV
      go_wp2_with ((with_reducible show wpList _ _ _ _ _ _); (refine wpList_load_row rfl 27 (.tmp 5) rfl g5 rfl 27 ct.toArray (0, 0) _ F5R.out Tryz.underlying27 rfl (by rw [LT.out]; kernel_rfl) ?_; go_frame))
      refine (FEE.out w2 v' BZ.out MR.out).mono ?_
      rintro e w3 ⟨u, rfl, hfl, bb⟩
      have BZ := Lib.hid (BZ.out.trans (bb.mono BZ.out.size))
      have F5R := Lib.hid (row_below F5R.out bb)
      have MR := Lib.hid (MR.out.below bb)
      have FL := Lib.hid hfl
      clear bb
      rcases flt_nil hfl with ⟨hz, rfl⟩ | ⟨hz, ty', x', rfl, hty⟩
      · have RW : Hid (R = if eb = false then (0, 16, none) else fr) := by show _ = _; rw [RX.out, FW.out, if_neg (fun h => h hz)]
        clear hz hfl RX
        go_wp2_with ((with_reducible show wpList _ _ _ _ _ _); (refine wpList_load_row rfl 27 (.tmp 5) rfl g5 rfl 27 ct.toArray (0, 0) _ F5R.out Tryz.underlying27 rfl (by rw [LT.out]; kernel_rfl) ?_; go_frame))
        refine (EA.out w3 v' BZ.out MR.out).mono ?_
        rintro e w4 ⟨rfl, bb⟩
        have FLZ := Lib.hid (FL.out.below bb)
        have BZ := Lib.hid (BZ.out.trans (bb.mono BZ.out.size))
        clear bb
        cases eb with
        | false =>
          have RV : Hid (R = (0, 16, none)) := RW.out
          have HEQ := Lib.hid (HE.out.below BZ.out)
          have qe : w4.cell? ⟨1, 0, none⟩ = some (.iface 250 (.pointer (some (E 15)))) := HEQ.out 15 (by omega)
          have QE := Lib.hid qe
          clear qe HEQ
          go_upto_region 10 with fail
          refine wp_region_held_drew (S := (fun w' => Below w4.heap.size w4 w')) (by kernel_rfl) (Below.drew (Below.refl _ _)) (fun hHeld => ?_)
          generalize hwd : w4.drew = wd at  hHeld ⊢
          clear hwd
          refine held_take (i := 0) (v := (.iface 250 (.pointer (some (E 15))))) rfl (by kernel_rfl) (by kernel_rfl) (by kernel_rfl) (fun _ _ _ h => h) (yieldsIf_load_one (by rfl) 37 _ rfl 1 (0) rfl _ _ (fun w' hw' => cell_below QE.out hw') Tryz.underlying37 rfl) hHeld ?_
          go_frame
          refine held_take (i := 1) (v := (.int .u64 0)) rfl (by kernel_rfl) (by kernel_rfl) (by kernel_rfl) (fun _ _ _ h => h) (Or.inl ⟨by rfl, fun w' _ => by kernel_rfl⟩) hHeld ?_
          go_frame
          refine held_take (i := 2) (v := (.iface 250 (.pointer (some (E 15))))) rfl (by kernel_rfl) (by kernel_rfl) (by kernel_rfl) (fun _ _ _ h => h) (Or.inl ⟨by rfl, fun w' _ => by kernel_rfl⟩) hHeld ?_
          go_frame
          refine wpAnyH_done (by kernel_rfl) ?_ _
          have BY := Lib.hid (BZ.out.trans (hHeld.mono BZ.out.size))
          clear hHeld
          go_wp2_with fail
          go_ret2
          exact ⟨_, by rw [RV.out]; rfl, by rw [RV.out]; exact .inl ⟨rfl, rfl⟩, BY.out⟩
        | true =>
          have RV : Hid (R = fr) := RW.out
          go_wp2_with fail
          go_ret2
          exact ⟨_, by rw [RV.out]; rfl, by rw [RV.out]; exact FLZ.out, BZ.out⟩
      · have RW : Hid (R = (0, fr.2)) := by show _ = _; rw [RX.out, FW.out, if_pos hz]
        clear hz hfl RX
        rcases hty with rfl | rfl
        · go_wp2_with fail
          go_ret2
          exact ⟨_, by rw [RW.out]; rfl, by rw [RW.out]; exact FL.out, BZ.out⟩
        · go_wp2_with fail
          go_ret2
          exact ⟨_, by rw [RW.out]; rfl, by rw [RW.out]; exact FL.out, BZ.out⟩
  · have hd : decide (1 ≤ height ∧ (np : Int) = height) = false := decide_eq_false hc
    have RV : Hid (R = (0, 2, none)) := by show _ = _; rw [FE.out, if_neg hc]
    rw [hd]
    clear hd hc FE
    have HEQ := Lib.hid (HE.out.below B1.out)
    have qe : w1.cell? ⟨0, 0, none⟩ = some (.iface 250 (.pointer (some (E 1)))) := HEQ.out 1 (by omega)
    have QE := Lib.hid qe
    clear qe HEQ
    go_upto_region 2 with fail
    refine wp_region_held_drew (S := (fun w' => Below w1.heap.size w1 w')) (by kernel_rfl) (Below.drew (Below.refl _ _)) (fun hHeld => ?_)
    generalize hwd : w1.drew = wd at  hHeld ⊢
    clear hwd
    refine held_take (i := 0) (v := (.iface 250 (.pointer (some (E 1))))) rfl (by kernel_rfl) (by kernel_rfl) (by kernel_rfl) (fun _ _ _ h => h) (yieldsIf_load_one (by rfl) 37 _ rfl 0 (0) rfl _ _ (fun w' hw' => cell_below QE.out hw') Tryz.underlying37 rfl) hHeld ?_
    go_frame
    refine held_take (i := 1) (v := (.int .u64 0)) rfl (by kernel_rfl) (by kernel_rfl) (by kernel_rfl) (fun _ _ _ h => h) (Or.inl ⟨by rfl, fun w' _ => by kernel_rfl⟩) hHeld ?_
    go_frame
    refine held_take (i := 2) (v := (.iface 250 (.pointer (some (E 1))))) rfl (by kernel_rfl) (by kernel_rfl) (by kernel_rfl) (fun _ _ _ h => h) (Or.inl ⟨by rfl, fun w' _ => by kernel_rfl⟩) hHeld ?_
    go_frame
    refine wpAnyH_done (by kernel_rfl) ?_ _
    have BY := Lib.hid (B1.out.trans (hHeld.mono B1.out.size))
    clear hHeld
    go_wp2_with fail
    go_ret2
    exact ⟨_, by rw [RV.out]; rfl, by rw [RV.out]; exact .inl ⟨rfl, rfl⟩, BY.out⟩
end Go.Proofs.YtckkcpplanfmhaaGreatDoor.Sha

/-
  A chain's rules as nine numbers; whether they may be. No conditions.
-/
namespace Go.Proofs.YtckkcpplanfmhaaGreatDoor.Sha
open Go Go.RowKit
structure TRu where
  hal : Int
  mat : Int
  pool : Int
  redo : Int
  log : Int
  anc : Int
  ancB : Int
  des : Int
  desB : Int
def ruL (r : TRu) : List Value := [.int .i64 r.hal, .int .i64 r.mat, .int .i64 r.pool, .int .i64 r.redo, .int .i64 r.log, .int .i64 r.anc, .int .i64 r.ancB, .int .i64 r.des, .int .i64 r.desB]
end Go.Proofs.YtckkcpplanfmhaaGreatDoor.Sha

/-
  Rules that may be, of a number, as the statements' own make them. Nothing that was there turns. Condition: a number that an int holds.
-/
namespace Go.Proofs.YtckkcpplanfmhaaGreatDoor.Sha
open Go Go.RowKit
def ruN : Nat → TRu
  | 1 => ⟨5, 0, 700, 2000, 200, 5, 2000, 5, 2000⟩
  | 2 => ⟨5, 2, 3000, 300, 4, 5, 2000, 5, 2000⟩
  | 3 => ⟨5, 1, 3000, 2000, 200, 2, 2000, 3, 2000⟩
  | 4 => ⟨5, 1, 3000, 2000, 200, 5, 400, 5, 500⟩
  | 5 => ⟨5, 0, 1048576, 1048576, 200, 50, 1048576, 50, 1048576⟩
  | _ => ⟨5, 1, 3000, 2000, 200, 5, 2000, 5, 2000⟩
set_option maxHeartbeats 1000000 in
set_option maxRecDepth 100000 in
theorem mkrules_0 (n : Int) (hk : numb n 6 = 0) (hn : -9223372036854775808 ≤ n ∧ n ≤ 9223372036854775807) (w : World) :
    Calls Tryz.prog 16 #[.int .i64 n] w fun e w' => e = .returned (.agg (ruL (ruN 0)).toArray) ∧ Below w.heap.size w w' := by
  have NB : Hid (∀ W, Calls Tryz.prog 15 #[.int .i64 n, .int .i64 6] W fun e w' => e = .returned (.int .i64 0) ∧ W = w') := fun W => (numb_any n 6 (by omega) (by omega) hn W).mono (by rw [hk]; exact fun _ _ h => h)
  go_enter Tryz.func16, Tryz.ntmps16
  go_upto_region 2 with fail
  obtain ⟨b, f2, f3⟩ := boxes_two w #[.int .i64 0, .int .i64 0, .int .i64 0, .int .i64 0, .int .i64 0, .int .i64 0, .int .i64 0, .int .i64 0, .int .i64 0] ([.int .i64 5, .int .i64 1, .int .i64 3000, .int .i64 2000, .int .i64 200, .int .i64 5, .int .i64 2000, .int .i64 5, .int .i64 2000] : List Value).toArray 62
  generalize hq : World.alloc _ _ = w1
  have e1 : (w.alloc (.cells #[.int .i64 0, .int .i64 0, .int .i64 0, .int .i64 0, .int .i64 0, .int .i64 0, .int .i64 0, .int .i64 0, .int .i64 0] 62 (0, 0))).alloc (.cells ([.int .i64 5, .int .i64 1, .int .i64 3000, .int .i64 2000, .int .i64 200, .int .i64 5, .int .i64 2000, .int .i64 5, .int .i64 2000] : List Value).toArray 62 (0, 0)) = w1 := hq
  rw [e1] at b f2 f3
  obtain ⟨g2, hg2⟩ : ∃ g2, g2 = w.heap.size := ⟨_, rfl⟩
  obtain ⟨g3, hg3⟩ : ∃ g3, g3 = w.heap.size + 1 := ⟨_, rfl⟩
  rw [← hg3] at f3
  rw [← hg2] at f2
  rw [← hg3, ← hg2]
  have F2 := Lib.hid f2
  have F3 := Lib.hid f3
  have BB := Lib.hid b
  have G : Hid (w.heap.size ≤ g2 ∧ g2 < g3) := ⟨by omega, by omega⟩
  clear b f2 f3 hq e1 hg2 hg3
  go_wp2_with fail
  refine (NB.out _).mono ?_
  rintro e wx ⟨rfl, rfl⟩
  clear NB
  go_wp2_with ((with_reducible show wpList _ _ _ _ _ _); first | (refine wpList_load_row rfl 62 (.tmp 3) rfl g3 rfl 62 ([.int .i64 5, .int .i64 1, .int .i64 3000, .int .i64 2000, .int .i64 200, .int .i64 5, .int .i64 2000, .int .i64 5, .int .i64 2000] : List Value).toArray (0, 0) _ F3.out Tryz.underlying62 rfl (by kernel_rfl) ?_; go_frame) | (refine wpList_store_row rfl 62 (.tmp 2) (.tmp 33) rfl g2 ([.int .i64 5, .int .i64 1, .int .i64 3000, .int .i64 2000, .int .i64 200, .int .i64 5, .int .i64 2000, .int .i64 5, .int .i64 2000] : List Value).toArray rfl rfl 62 _ F2.out (by kernel_rfl) rfl (by kernel_rfl) ?_; go_frame))
  refine bodyPost_ret (results_cell_row rfl _ _ g2 62 ([.int .i64 5, .int .i64 1, .int .i64 3000, .int .i64 2000, .int .i64 200, .int .i64 5, .int .i64 2000, .int .i64 5, .int .i64 2000] : List Value).toArray (0, 0) _ rfl (setRow_heap _ _ _ _ _ _ F2.out) Tryz.underlying62 rfl (by kernel_rfl)) rfl ?_
  exact ⟨rfl, below_setRow BB.out G.out.1 _⟩
set_option maxHeartbeats 1000000 in
set_option maxRecDepth 100000 in
theorem mkrules_1 (n : Int) (hk : numb n 6 = 1) (hn : -9223372036854775808 ≤ n ∧ n ≤ 9223372036854775807) (w : World) :
    Calls Tryz.prog 16 #[.int .i64 n] w fun e w' => e = .returned (.agg (ruL (ruN 1)).toArray) ∧ Below w.heap.size w w' := by
  have NB : Hid (∀ W, Calls Tryz.prog 15 #[.int .i64 n, .int .i64 6] W fun e w' => e = .returned (.int .i64 1) ∧ W = w') := fun W => (numb_any n 6 (by omega) (by omega) hn W).mono (by rw [hk]; exact fun _ _ h => h)
  go_enter Tryz.func16, Tryz.ntmps16
  go_upto_region 2 with fail
  obtain ⟨b, f2, f3⟩ := boxes_two w #[.int .i64 0, .int .i64 0, .int .i64 0, .int .i64 0, .int .i64 0, .int .i64 0, .int .i64 0, .int .i64 0, .int .i64 0] ([.int .i64 5, .int .i64 1, .int .i64 3000, .int .i64 2000, .int .i64 200, .int .i64 5, .int .i64 2000, .int .i64 5, .int .i64 2000] : List Value).toArray 62
  generalize hq : World.alloc _ _ = w1
  have e1 : (w.alloc (.cells #[.int .i64 0, .int .i64 0, .int .i64 0, .int .i64 0, .int .i64 0, .int .i64 0, .int .i64 0, .int .i64 0, .int .i64 0] 62 (0, 0))).alloc (.cells ([.int .i64 5, .int .i64 1, .int .i64 3000, .int .i64 2000, .int .i64 200, .int .i64 5, .int .i64 2000, .int .i64 5, .int .i64 2000] : List Value).toArray 62 (0, 0)) = w1 := hq
  rw [e1] at b f2 f3
  obtain ⟨g2, hg2⟩ : ∃ g2, g2 = w.heap.size := ⟨_, rfl⟩
  obtain ⟨g3, hg3⟩ : ∃ g3, g3 = w.heap.size + 1 := ⟨_, rfl⟩
  rw [← hg3] at f3
  rw [← hg2] at f2
  rw [← hg3, ← hg2]
  have F2 := Lib.hid f2
  have F3 := Lib.hid f3
  have BB := Lib.hid b
  have G : Hid (w.heap.size ≤ g2 ∧ g2 < g3) := ⟨by omega, by omega⟩
  clear b f2 f3 hq e1 hg2 hg3
  go_wp2_with fail
  refine (NB.out _).mono ?_
  rintro e wx ⟨rfl, rfl⟩
  clear NB
  go_upto_region 5 with ((with_reducible show wpList _ _ _ _ _ _); (refine wpList_store_part rfl 3 (.tmp 9) (.const (.int .i64 0)) rfl g3 1 [.int .i64 5] [.int .i64 1] [.int .i64 3000, .int .i64 2000, .int .i64 200, .int .i64 5, .int .i64 2000, .int .i64 5, .int .i64 2000] [.int .i64 0] 62 (.int .i64 0) rfl rfl rfl rfl rfl F3.out (by kernel_rfl) (fun u hu => by obtain rfl := List.mem_singleton.1 hu; rfl) ?_; intro v0 q1 q2; have F3 : Hid (v0.heap[g3]? = some (.cells ([.int .i64 5, .int .i64 0, .int .i64 3000, .int .i64 2000, .int .i64 200, .int .i64 5, .int .i64 2000, .int .i64 5, .int .i64 2000] : List Value).toArray 62 (0, 0))) := q1; have F2 := Lib.hid (row_far F2.out q2 (by intro h; have := Option.some.inj h; have := G.out; omega)); have BB := Lib.hid (grownBy_below q2 BB.out (by have := G.out; omega) BB.out.size); clear q1 q2; go_frame))
  go_upto_region 24 with ((with_reducible show wpList _ _ _ _ _ _); (refine wpList_store_part rfl 3 (.tmp 10) (.const (.int .i64 700)) rfl g3 2 [.int .i64 5, .int .i64 0] [.int .i64 3000] [.int .i64 2000, .int .i64 200, .int .i64 5, .int .i64 2000, .int .i64 5, .int .i64 2000] [.int .i64 700] 62 (.int .i64 700) rfl rfl rfl rfl rfl F3.out (by kernel_rfl) (fun u hu => by obtain rfl := List.mem_singleton.1 hu; rfl) ?_; intro v1 q1 q2; have F3 : Hid (v1.heap[g3]? = some (.cells ([.int .i64 5, .int .i64 0, .int .i64 700, .int .i64 2000, .int .i64 200, .int .i64 5, .int .i64 2000, .int .i64 5, .int .i64 2000] : List Value).toArray 62 (0, 0))) := q1; have F2 := Lib.hid (row_far F2.out q2 (by intro h; have := Option.some.inj h; have := G.out; omega)); have BB := Lib.hid (grownBy_below q2 BB.out (by have := G.out; omega) BB.out.size); clear q1 q2; go_frame))
  go_wp2_with ((with_reducible show wpList _ _ _ _ _ _); first | (refine wpList_load_row rfl 62 (.tmp 3) rfl g3 rfl 62 ([.int .i64 5, .int .i64 0, .int .i64 700, .int .i64 2000, .int .i64 200, .int .i64 5, .int .i64 2000, .int .i64 5, .int .i64 2000] : List Value).toArray (0, 0) _ F3.out Tryz.underlying62 rfl (by kernel_rfl) ?_; go_frame) | (refine wpList_store_row rfl 62 (.tmp 2) (.tmp 33) rfl g2 ([.int .i64 5, .int .i64 0, .int .i64 700, .int .i64 2000, .int .i64 200, .int .i64 5, .int .i64 2000, .int .i64 5, .int .i64 2000] : List Value).toArray rfl rfl 62 _ F2.out (by kernel_rfl) rfl (by kernel_rfl) ?_; go_frame))
  refine bodyPost_ret (results_cell_row rfl _ _ g2 62 ([.int .i64 5, .int .i64 0, .int .i64 700, .int .i64 2000, .int .i64 200, .int .i64 5, .int .i64 2000, .int .i64 5, .int .i64 2000] : List Value).toArray (0, 0) _ rfl (setRow_heap _ _ _ _ _ _ F2.out) Tryz.underlying62 rfl (by kernel_rfl)) rfl ?_
  exact ⟨rfl, below_setRow BB.out G.out.1 _⟩
set_option maxHeartbeats 1000000 in
set_option maxRecDepth 100000 in
theorem mkrules_2 (n : Int) (hk : numb n 6 = 2) (hn : -9223372036854775808 ≤ n ∧ n ≤ 9223372036854775807) (w : World) :
    Calls Tryz.prog 16 #[.int .i64 n] w fun e w' => e = .returned (.agg (ruL (ruN 2)).toArray) ∧ Below w.heap.size w w' := by
  have NB : Hid (∀ W, Calls Tryz.prog 15 #[.int .i64 n, .int .i64 6] W fun e w' => e = .returned (.int .i64 2) ∧ W = w') := fun W => (numb_any n 6 (by omega) (by omega) hn W).mono (by rw [hk]; exact fun _ _ h => h)
  go_enter Tryz.func16, Tryz.ntmps16
  go_upto_region 2 with fail
  obtain ⟨b, f2, f3⟩ := boxes_two w #[.int .i64 0, .int .i64 0, .int .i64 0, .int .i64 0, .int .i64 0, .int .i64 0, .int .i64 0, .int .i64 0, .int .i64 0] ([.int .i64 5, .int .i64 1, .int .i64 3000, .int .i64 2000, .int .i64 200, .int .i64 5, .int .i64 2000, .int .i64 5, .int .i64 2000] : List Value).toArray 62
  generalize hq : World.alloc _ _ = w1
  have e1 : (w.alloc (.cells #[.int .i64 0, .int .i64 0, .int .i64 0, .int .i64 0, .int .i64 0, .int .i64 0, .int .i64 0, .int .i64 0, .int .i64 0] 62 (0, 0))).alloc (.cells ([.int .i64 5, .int .i64 1, .int .i64 3000, .int .i64 2000, .int .i64 200, .int .i64 5, .int .i64 2000, .int .i64 5, .int .i64 2000] : List Value).toArray 62 (0, 0)) = w1 := hq
  rw [e1] at b f2 f3
  obtain ⟨g2, hg2⟩ : ∃ g2, g2 = w.heap.size := ⟨_, rfl⟩
  obtain ⟨g3, hg3⟩ : ∃ g3, g3 = w.heap.size + 1 := ⟨_, rfl⟩
  rw [← hg3] at f3
  rw [← hg2] at f2
  rw [← hg3, ← hg2]
  have F2 := Lib.hid f2
  have F3 := Lib.hid f3
  have BB := Lib.hid b
  have G : Hid (w.heap.size ≤ g2 ∧ g2 < g3) := ⟨by omega, by omega⟩
  clear b f2 f3 hq e1 hg2 hg3
  go_wp2_with fail
  refine (NB.out _).mono ?_
  rintro e wx ⟨rfl, rfl⟩
  clear NB
  go_upto_region 8 with ((with_reducible show wpList _ _ _ _ _ _); (refine wpList_store_part rfl 3 (.tmp 13) (.const (.int .i64 2)) rfl g3 1 [.int .i64 5] [.int .i64 1] [.int .i64 3000, .int .i64 2000, .int .i64 200, .int .i64 5, .int .i64 2000, .int .i64 5, .int .i64 2000] [.int .i64 2] 62 (.int .i64 2) rfl rfl rfl rfl rfl F3.out (by kernel_rfl) (fun u hu => by obtain rfl := List.mem_singleton.1 hu; rfl) ?_; intro v0 q1 q2; have F3 : Hid (v0.heap[g3]? = some (.cells ([.int .i64 5, .int .i64 2, .int .i64 3000, .int .i64 2000, .int .i64 200, .int .i64 5, .int .i64 2000, .int .i64 5, .int .i64 2000] : List Value).toArray 62 (0, 0))) := q1; have F2 := Lib.hid (row_far F2.out q2 (by intro h; have := Option.some.inj h; have := G.out; omega)); have BB := Lib.hid (grownBy_below q2 BB.out (by have := G.out; omega) BB.out.size); clear q1 q2; go_frame))
  go_upto_region 9 with ((with_reducible show wpList _ _ _ _ _ _); (refine wpList_store_part rfl 3 (.tmp 14) (.const (.int .i64 300)) rfl g3 3 [.int .i64 5, .int .i64 2, .int .i64 3000] [.int .i64 2000] [.int .i64 200, .int .i64 5, .int .i64 2000, .int .i64 5, .int .i64 2000] [.int .i64 300] 62 (.int .i64 300) rfl rfl rfl rfl rfl F3.out (by kernel_rfl) (fun u hu => by obtain rfl := List.mem_singleton.1 hu; rfl) ?_; intro v1 q1 q2; have F3 : Hid (v1.heap[g3]? = some (.cells ([.int .i64 5, .int .i64 2, .int .i64 3000, .int .i64 300, .int .i64 200, .int .i64 5, .int .i64 2000, .int .i64 5, .int .i64 2000] : List Value).toArray 62 (0, 0))) := q1; have F2 := Lib.hid (row_far F2.out q2 (by intro h; have := Option.some.inj h; have := G.out; omega)); have BB := Lib.hid (grownBy_below q2 BB.out (by have := G.out; omega) BB.out.size); clear q1 q2; go_frame))
  go_upto_region 24 with ((with_reducible show wpList _ _ _ _ _ _); (refine wpList_store_part rfl 3 (.tmp 15) (.const (.int .i64 4)) rfl g3 4 [.int .i64 5, .int .i64 2, .int .i64 3000, .int .i64 300] [.int .i64 200] [.int .i64 5, .int .i64 2000, .int .i64 5, .int .i64 2000] [.int .i64 4] 62 (.int .i64 4) rfl rfl rfl rfl rfl F3.out (by kernel_rfl) (fun u hu => by obtain rfl := List.mem_singleton.1 hu; rfl) ?_; intro v2 q1 q2; have F3 : Hid (v2.heap[g3]? = some (.cells ([.int .i64 5, .int .i64 2, .int .i64 3000, .int .i64 300, .int .i64 4, .int .i64 5, .int .i64 2000, .int .i64 5, .int .i64 2000] : List Value).toArray 62 (0, 0))) := q1; have F2 := Lib.hid (row_far F2.out q2 (by intro h; have := Option.some.inj h; have := G.out; omega)); have BB := Lib.hid (grownBy_below q2 BB.out (by have := G.out; omega) BB.out.size); clear q1 q2; go_frame))
  go_wp2_with ((with_reducible show wpList _ _ _ _ _ _); first | (refine wpList_load_row rfl 62 (.tmp 3) rfl g3 rfl 62 ([.int .i64 5, .int .i64 2, .int .i64 3000, .int .i64 300, .int .i64 4, .int .i64 5, .int .i64 2000, .int .i64 5, .int .i64 2000] : List Value).toArray (0, 0) _ F3.out Tryz.underlying62 rfl (by kernel_rfl) ?_; go_frame) | (refine wpList_store_row rfl 62 (.tmp 2) (.tmp 33) rfl g2 ([.int .i64 5, .int .i64 2, .int .i64 3000, .int .i64 300, .int .i64 4, .int .i64 5, .int .i64 2000, .int .i64 5, .int .i64 2000] : List Value).toArray rfl rfl 62 _ F2.out (by kernel_rfl) rfl (by kernel_rfl) ?_; go_frame))
  refine bodyPost_ret (results_cell_row rfl _ _ g2 62 ([.int .i64 5, .int .i64 2, .int .i64 3000, .int .i64 300, .int .i64 4, .int .i64 5, .int .i64 2000, .int .i64 5, .int .i64 2000] : List Value).toArray (0, 0) _ rfl (setRow_heap _ _ _ _ _ _ F2.out) Tryz.underlying62 rfl (by kernel_rfl)) rfl ?_
  exact ⟨rfl, below_setRow BB.out G.out.1 _⟩
set_option maxHeartbeats 1000000 in
set_option maxRecDepth 100000 in
theorem mkrules_3 (n : Int) (hk : numb n 6 = 3) (hn : -9223372036854775808 ≤ n ∧ n ≤ 9223372036854775807) (w : World) :
    Calls Tryz.prog 16 #[.int .i64 n] w fun e w' => e = .returned (.agg (ruL (ruN 3)).toArray) ∧ Below w.heap.size w w' := by
  have NB : Hid (∀ W, Calls Tryz.prog 15 #[.int .i64 n, .int .i64 6] W fun e w' => e = .returned (.int .i64 3) ∧ W = w') := fun W => (numb_any n 6 (by omega) (by omega) hn W).mono (by rw [hk]; exact fun _ _ h => h)
  go_enter Tryz.func16, Tryz.ntmps16
  go_upto_region 2 with fail
  obtain ⟨b, f2, f3⟩ := boxes_two w #[.int .i64 0, .int .i64 0, .int .i64 0, .int .i64 0, .int .i64 0, .int .i64 0, .int .i64 0, .int .i64 0, .int .i64 0] ([.int .i64 5, .int .i64 1, .int .i64 3000, .int .i64 2000, .int .i64 200, .int .i64 5, .int .i64 2000, .int .i64 5, .int .i64 2000] : List Value).toArray 62
  generalize hq : World.alloc _ _ = w1
  have e1 : (w.alloc (.cells #[.int .i64 0, .int .i64 0, .int .i64 0, .int .i64 0, .int .i64 0, .int .i64 0, .int .i64 0, .int .i64 0, .int .i64 0] 62 (0, 0))).alloc (.cells ([.int .i64 5, .int .i64 1, .int .i64 3000, .int .i64 2000, .int .i64 200, .int .i64 5, .int .i64 2000, .int .i64 5, .int .i64 2000] : List Value).toArray 62 (0, 0)) = w1 := hq
  rw [e1] at b f2 f3
  obtain ⟨g2, hg2⟩ : ∃ g2, g2 = w.heap.size := ⟨_, rfl⟩
  obtain ⟨g3, hg3⟩ : ∃ g3, g3 = w.heap.size + 1 := ⟨_, rfl⟩
  rw [← hg3] at f3
  rw [← hg2] at f2
  rw [← hg3, ← hg2]
  have F2 := Lib.hid f2
  have F3 := Lib.hid f3
  have BB := Lib.hid b
  have G : Hid (w.heap.size ≤ g2 ∧ g2 < g3) := ⟨by omega, by omega⟩
  clear b f2 f3 hq e1 hg2 hg3
  go_wp2_with fail
  refine (NB.out _).mono ?_
  rintro e wx ⟨rfl, rfl⟩
  clear NB
  go_upto_region 12 with ((with_reducible show wpList _ _ _ _ _ _); (refine wpList_store_part rfl 3 (.tmp 18) (.const (.int .i64 2)) rfl g3 5 [.int .i64 5, .int .i64 1, .int .i64 3000, .int .i64 2000, .int .i64 200] [.int .i64 5] [.int .i64 2000, .int .i64 5, .int .i64 2000] [.int .i64 2] 62 (.int .i64 2) rfl rfl rfl rfl rfl F3.out (by kernel_rfl) (fun u hu => by obtain rfl := List.mem_singleton.1 hu; rfl) ?_; intro v0 q1 q2; have F3 : Hid (v0.heap[g3]? = some (.cells ([.int .i64 5, .int .i64 1, .int .i64 3000, .int .i64 2000, .int .i64 200, .int .i64 2, .int .i64 2000, .int .i64 5, .int .i64 2000] : List Value).toArray 62 (0, 0))) := q1; have F2 := Lib.hid (row_far F2.out q2 (by intro h; have := Option.some.inj h; have := G.out; omega)); have BB := Lib.hid (grownBy_below q2 BB.out (by have := G.out; omega) BB.out.size); clear q1 q2; go_frame))
  go_upto_region 24 with ((with_reducible show wpList _ _ _ _ _ _); (refine wpList_store_part rfl 3 (.tmp 19) (.const (.int .i64 3)) rfl g3 7 [.int .i64 5, .int .i64 1, .int .i64 3000, .int .i64 2000, .int .i64 200, .int .i64 2, .int .i64 2000] [.int .i64 5] [.int .i64 2000] [.int .i64 3] 62 (.int .i64 3) rfl rfl rfl rfl rfl F3.out (by kernel_rfl) (fun u hu => by obtain rfl := List.mem_singleton.1 hu; rfl) ?_; intro v1 q1 q2; have F3 : Hid (v1.heap[g3]? = some (.cells ([.int .i64 5, .int .i64 1, .int .i64 3000, .int .i64 2000, .int .i64 200, .int .i64 2, .int .i64 2000, .int .i64 3, .int .i64 2000] : List Value).toArray 62 (0, 0))) := q1; have F2 := Lib.hid (row_far F2.out q2 (by intro h; have := Option.some.inj h; have := G.out; omega)); have BB := Lib.hid (grownBy_below q2 BB.out (by have := G.out; omega) BB.out.size); clear q1 q2; go_frame))
  go_wp2_with ((with_reducible show wpList _ _ _ _ _ _); first | (refine wpList_load_row rfl 62 (.tmp 3) rfl g3 rfl 62 ([.int .i64 5, .int .i64 1, .int .i64 3000, .int .i64 2000, .int .i64 200, .int .i64 2, .int .i64 2000, .int .i64 3, .int .i64 2000] : List Value).toArray (0, 0) _ F3.out Tryz.underlying62 rfl (by kernel_rfl) ?_; go_frame) | (refine wpList_store_row rfl 62 (.tmp 2) (.tmp 33) rfl g2 ([.int .i64 5, .int .i64 1, .int .i64 3000, .int .i64 2000, .int .i64 200, .int .i64 2, .int .i64 2000, .int .i64 3, .int .i64 2000] : List Value).toArray rfl rfl 62 _ F2.out (by kernel_rfl) rfl (by kernel_rfl) ?_; go_frame))
  refine bodyPost_ret (results_cell_row rfl _ _ g2 62 ([.int .i64 5, .int .i64 1, .int .i64 3000, .int .i64 2000, .int .i64 200, .int .i64 2, .int .i64 2000, .int .i64 3, .int .i64 2000] : List Value).toArray (0, 0) _ rfl (setRow_heap _ _ _ _ _ _ F2.out) Tryz.underlying62 rfl (by kernel_rfl)) rfl ?_
  exact ⟨rfl, below_setRow BB.out G.out.1 _⟩
set_option maxHeartbeats 1000000 in
set_option maxRecDepth 100000 in
theorem mkrules_4 (n : Int) (hk : numb n 6 = 4) (hn : -9223372036854775808 ≤ n ∧ n ≤ 9223372036854775807) (w : World) :
    Calls Tryz.prog 16 #[.int .i64 n] w fun e w' => e = .returned (.agg (ruL (ruN 4)).toArray) ∧ Below w.heap.size w w' := by
  have NB : Hid (∀ W, Calls Tryz.prog 15 #[.int .i64 n, .int .i64 6] W fun e w' => e = .returned (.int .i64 4) ∧ W = w') := fun W => (numb_any n 6 (by omega) (by omega) hn W).mono (by rw [hk]; exact fun _ _ h => h)
  go_enter Tryz.func16, Tryz.ntmps16
  go_upto_region 2 with fail
  obtain ⟨b, f2, f3⟩ := boxes_two w #[.int .i64 0, .int .i64 0, .int .i64 0, .int .i64 0, .int .i64 0, .int .i64 0, .int .i64 0, .int .i64 0, .int .i64 0] ([.int .i64 5, .int .i64 1, .int .i64 3000, .int .i64 2000, .int .i64 200, .int .i64 5, .int .i64 2000, .int .i64 5, .int .i64 2000] : List Value).toArray 62
  generalize hq : World.alloc _ _ = w1
  have e1 : (w.alloc (.cells #[.int .i64 0, .int .i64 0, .int .i64 0, .int .i64 0, .int .i64 0, .int .i64 0, .int .i64 0, .int .i64 0, .int .i64 0] 62 (0, 0))).alloc (.cells ([.int .i64 5, .int .i64 1, .int .i64 3000, .int .i64 2000, .int .i64 200, .int .i64 5, .int .i64 2000, .int .i64 5, .int .i64 2000] : List Value).toArray 62 (0, 0)) = w1 := hq
  rw [e1] at b f2 f3
  obtain ⟨g2, hg2⟩ : ∃ g2, g2 = w.heap.size := ⟨_, rfl⟩
  obtain ⟨g3, hg3⟩ : ∃ g3, g3 = w.heap.size + 1 := ⟨_, rfl⟩
  rw [← hg3] at f3
  rw [← hg2] at f2
  rw [← hg3, ← hg2]
  have F2 := Lib.hid f2
  have F3 := Lib.hid f3
  have BB := Lib.hid b
  have G : Hid (w.heap.size ≤ g2 ∧ g2 < g3) := ⟨by omega, by omega⟩
  clear b f2 f3 hq e1 hg2 hg3
  go_wp2_with fail
  refine (NB.out _).mono ?_
  rintro e wx ⟨rfl, rfl⟩
  clear NB
  go_upto_region 15 with ((with_reducible show wpList _ _ _ _ _ _); (refine wpList_store_part rfl 3 (.tmp 22) (.const (.int .i64 400)) rfl g3 6 [.int .i64 5, .int .i64 1, .int .i64 3000, .int .i64 2000, .int .i64 200, .int .i64 5] [.int .i64 2000] [.int .i64 5, .int .i64 2000] [.int .i64 400] 62 (.int .i64 400) rfl rfl rfl rfl rfl F3.out (by kernel_rfl) (fun u hu => by obtain rfl := List.mem_singleton.1 hu; rfl) ?_; intro v0 q1 q2; have F3 : Hid (v0.heap[g3]? = some (.cells ([.int .i64 5, .int .i64 1, .int .i64 3000, .int .i64 2000, .int .i64 200, .int .i64 5, .int .i64 400, .int .i64 5, .int .i64 2000] : List Value).toArray 62 (0, 0))) := q1; have F2 := Lib.hid (row_far F2.out q2 (by intro h; have := Option.some.inj h; have := G.out; omega)); have BB := Lib.hid (grownBy_below q2 BB.out (by have := G.out; omega) BB.out.size); clear q1 q2; go_frame))
  go_upto_region 24 with ((with_reducible show wpList _ _ _ _ _ _); (refine wpList_store_part rfl 3 (.tmp 23) (.const (.int .i64 500)) rfl g3 8 [.int .i64 5, .int .i64 1, .int .i64 3000, .int .i64 2000, .int .i64 200, .int .i64 5, .int .i64 400, .int .i64 5] [.int .i64 2000] [] [.int .i64 500] 62 (.int .i64 500) rfl rfl rfl rfl rfl F3.out (by kernel_rfl) (fun u hu => by obtain rfl := List.mem_singleton.1 hu; rfl) ?_; intro v1 q1 q2; have F3 : Hid (v1.heap[g3]? = some (.cells ([.int .i64 5, .int .i64 1, .int .i64 3000, .int .i64 2000, .int .i64 200, .int .i64 5, .int .i64 400, .int .i64 5, .int .i64 500] : List Value).toArray 62 (0, 0))) := q1; have F2 := Lib.hid (row_far F2.out q2 (by intro h; have := Option.some.inj h; have := G.out; omega)); have BB := Lib.hid (grownBy_below q2 BB.out (by have := G.out; omega) BB.out.size); clear q1 q2; go_frame))
  go_wp2_with ((with_reducible show wpList _ _ _ _ _ _); first | (refine wpList_load_row rfl 62 (.tmp 3) rfl g3 rfl 62 ([.int .i64 5, .int .i64 1, .int .i64 3000, .int .i64 2000, .int .i64 200, .int .i64 5, .int .i64 400, .int .i64 5, .int .i64 500] : List Value).toArray (0, 0) _ F3.out Tryz.underlying62 rfl (by kernel_rfl) ?_; go_frame) | (refine wpList_store_row rfl 62 (.tmp 2) (.tmp 33) rfl g2 ([.int .i64 5, .int .i64 1, .int .i64 3000, .int .i64 2000, .int .i64 200, .int .i64 5, .int .i64 400, .int .i64 5, .int .i64 500] : List Value).toArray rfl rfl 62 _ F2.out (by kernel_rfl) rfl (by kernel_rfl) ?_; go_frame))
  refine bodyPost_ret (results_cell_row rfl _ _ g2 62 ([.int .i64 5, .int .i64 1, .int .i64 3000, .int .i64 2000, .int .i64 200, .int .i64 5, .int .i64 400, .int .i64 5, .int .i64 500] : List Value).toArray (0, 0) _ rfl (setRow_heap _ _ _ _ _ _ F2.out) Tryz.underlying62 rfl (by kernel_rfl)) rfl ?_
  exact ⟨rfl, below_setRow BB.out G.out.1 _⟩
set_option maxHeartbeats 1000000 in
set_option maxRecDepth 100000 in
theorem mkrules_5 (n : Int) (hk : numb n 6 = 5) (hn : -9223372036854775808 ≤ n ∧ n ≤ 9223372036854775807) (w : World) :
    Calls Tryz.prog 16 #[.int .i64 n] w fun e w' => e = .returned (.agg (ruL (ruN 5)).toArray) ∧ Below w.heap.size w w' := by
  have NB : Hid (∀ W, Calls Tryz.prog 15 #[.int .i64 n, .int .i64 6] W fun e w' => e = .returned (.int .i64 5) ∧ W = w') := fun W => (numb_any n 6 (by omega) (by omega) hn W).mono (by rw [hk]; exact fun _ _ h => h)
  go_enter Tryz.func16, Tryz.ntmps16
  go_upto_region 2 with fail
  obtain ⟨b, f2, f3⟩ := boxes_two w #[.int .i64 0, .int .i64 0, .int .i64 0, .int .i64 0, .int .i64 0, .int .i64 0, .int .i64 0, .int .i64 0, .int .i64 0] ([.int .i64 5, .int .i64 1, .int .i64 3000, .int .i64 2000, .int .i64 200, .int .i64 5, .int .i64 2000, .int .i64 5, .int .i64 2000] : List Value).toArray 62
  generalize hq : World.alloc _ _ = w1
  have e1 : (w.alloc (.cells #[.int .i64 0, .int .i64 0, .int .i64 0, .int .i64 0, .int .i64 0, .int .i64 0, .int .i64 0, .int .i64 0, .int .i64 0] 62 (0, 0))).alloc (.cells ([.int .i64 5, .int .i64 1, .int .i64 3000, .int .i64 2000, .int .i64 200, .int .i64 5, .int .i64 2000, .int .i64 5, .int .i64 2000] : List Value).toArray 62 (0, 0)) = w1 := hq
  rw [e1] at b f2 f3
  obtain ⟨g2, hg2⟩ : ∃ g2, g2 = w.heap.size := ⟨_, rfl⟩
  obtain ⟨g3, hg3⟩ : ∃ g3, g3 = w.heap.size + 1 := ⟨_, rfl⟩
  rw [← hg3] at f3
  rw [← hg2] at f2
  rw [← hg3, ← hg2]
  have F2 := Lib.hid f2
  have F3 := Lib.hid f3
  have BB := Lib.hid b
  have G : Hid (w.heap.size ≤ g2 ∧ g2 < g3) := ⟨by omega, by omega⟩
  clear b f2 f3 hq e1 hg2 hg3
  go_wp2_with fail
  refine (NB.out _).mono ?_
  rintro e wx ⟨rfl, rfl⟩
  clear NB
  go_upto_region 18 with ((with_reducible show wpList _ _ _ _ _ _); (refine wpList_store_part rfl 3 (.tmp 26) (.const (.int .i64 0)) rfl g3 1 [.int .i64 5] [.int .i64 1] [.int .i64 3000, .int .i64 2000, .int .i64 200, .int .i64 5, .int .i64 2000, .int .i64 5, .int .i64 2000] [.int .i64 0] 62 (.int .i64 0) rfl rfl rfl rfl rfl F3.out (by kernel_rfl) (fun u hu => by obtain rfl := List.mem_singleton.1 hu; rfl) ?_; intro v0 q1 q2; have F3 : Hid (v0.heap[g3]? = some (.cells ([.int .i64 5, .int .i64 0, .int .i64 3000, .int .i64 2000, .int .i64 200, .int .i64 5, .int .i64 2000, .int .i64 5, .int .i64 2000] : List Value).toArray 62 (0, 0))) := q1; have F2 := Lib.hid (row_far F2.out q2 (by intro h; have := Option.some.inj h; have := G.out; omega)); have BB := Lib.hid (grownBy_below q2 BB.out (by have := G.out; omega) BB.out.size); clear q1 q2; go_frame))
  go_upto_region 19 with ((with_reducible show wpList _ _ _ _ _ _); (refine wpList_store_part rfl 3 (.tmp 27) (.const (.int .i64 1048576)) rfl g3 2 [.int .i64 5, .int .i64 0] [.int .i64 3000] [.int .i64 2000, .int .i64 200, .int .i64 5, .int .i64 2000, .int .i64 5, .int .i64 2000] [.int .i64 1048576] 62 (.int .i64 1048576) rfl rfl rfl rfl rfl F3.out (by kernel_rfl) (fun u hu => by obtain rfl := List.mem_singleton.1 hu; rfl) ?_; intro v1 q1 q2; have F3 : Hid (v1.heap[g3]? = some (.cells ([.int .i64 5, .int .i64 0, .int .i64 1048576, .int .i64 2000, .int .i64 200, .int .i64 5, .int .i64 2000, .int .i64 5, .int .i64 2000] : List Value).toArray 62 (0, 0))) := q1; have F2 := Lib.hid (row_far F2.out q2 (by intro h; have := Option.some.inj h; have := G.out; omega)); have BB := Lib.hid (grownBy_below q2 BB.out (by have := G.out; omega) BB.out.size); clear q1 q2; go_frame))
  go_upto_region 20 with ((with_reducible show wpList _ _ _ _ _ _); (refine wpList_store_part rfl 3 (.tmp 28) (.const (.int .i64 50)) rfl g3 5 [.int .i64 5, .int .i64 0, .int .i64 1048576, .int .i64 2000, .int .i64 200] [.int .i64 5] [.int .i64 2000, .int .i64 5, .int .i64 2000] [.int .i64 50] 62 (.int .i64 50) rfl rfl rfl rfl rfl F3.out (by kernel_rfl) (fun u hu => by obtain rfl := List.mem_singleton.1 hu; rfl) ?_; intro v2 q1 q2; have F3 : Hid (v2.heap[g3]? = some (.cells ([.int .i64 5, .int .i64 0, .int .i64 1048576, .int .i64 2000, .int .i64 200, .int .i64 50, .int .i64 2000, .int .i64 5, .int .i64 2000] : List Value).toArray 62 (0, 0))) := q1; have F2 := Lib.hid (row_far F2.out q2 (by intro h; have := Option.some.inj h; have := G.out; omega)); have BB := Lib.hid (grownBy_below q2 BB.out (by have := G.out; omega) BB.out.size); clear q1 q2; go_frame))
  go_upto_region 21 with ((with_reducible show wpList _ _ _ _ _ _); (refine wpList_store_part rfl 3 (.tmp 29) (.const (.int .i64 50)) rfl g3 7 [.int .i64 5, .int .i64 0, .int .i64 1048576, .int .i64 2000, .int .i64 200, .int .i64 50, .int .i64 2000] [.int .i64 5] [.int .i64 2000] [.int .i64 50] 62 (.int .i64 50) rfl rfl rfl rfl rfl F3.out (by kernel_rfl) (fun u hu => by obtain rfl := List.mem_singleton.1 hu; rfl) ?_; intro v3 q1 q2; have F3 : Hid (v3.heap[g3]? = some (.cells ([.int .i64 5, .int .i64 0, .int .i64 1048576, .int .i64 2000, .int .i64 200, .int .i64 50, .int .i64 2000, .int .i64 50, .int .i64 2000] : List Value).toArray 62 (0, 0))) := q1; have F2 := Lib.hid (row_far F2.out q2 (by intro h; have := Option.some.inj h; have := G.out; omega)); have BB := Lib.hid (grownBy_below q2 BB.out (by have := G.out; omega) BB.out.size); clear q1 q2; go_frame))
  go_upto_region 22 with ((with_reducible show wpList _ _ _ _ _ _); (refine wpList_store_part rfl 3 (.tmp 30) (.const (.int .i64 1048576)) rfl g3 6 [.int .i64 5, .int .i64 0, .int .i64 1048576, .int .i64 2000, .int .i64 200, .int .i64 50] [.int .i64 2000] [.int .i64 50, .int .i64 2000] [.int .i64 1048576] 62 (.int .i64 1048576) rfl rfl rfl rfl rfl F3.out (by kernel_rfl) (fun u hu => by obtain rfl := List.mem_singleton.1 hu; rfl) ?_; intro v4 q1 q2; have F3 : Hid (v4.heap[g3]? = some (.cells ([.int .i64 5, .int .i64 0, .int .i64 1048576, .int .i64 2000, .int .i64 200, .int .i64 50, .int .i64 1048576, .int .i64 50, .int .i64 2000] : List Value).toArray 62 (0, 0))) := q1; have F2 := Lib.hid (row_far F2.out q2 (by intro h; have := Option.some.inj h; have := G.out; omega)); have BB := Lib.hid (grownBy_below q2 BB.out (by have := G.out; omega) BB.out.size); clear q1 q2; go_frame))
  go_upto_region 23 with ((with_reducible show wpList _ _ _ _ _ _); (refine wpList_store_part rfl 3 (.tmp 31) (.const (.int .i64 1048576)) rfl g3 8 [.int .i64 5, .int .i64 0, .int .i64 1048576, .int .i64 2000, .int .i64 200, .int .i64 50, .int .i64 1048576, .int .i64 50] [.int .i64 2000] [] [.int .i64 1048576] 62 (.int .i64 1048576) rfl rfl rfl rfl rfl F3.out (by kernel_rfl) (fun u hu => by obtain rfl := List.mem_singleton.1 hu; rfl) ?_; intro v5 q1 q2; have F3 : Hid (v5.heap[g3]? = some (.cells ([.int .i64 5, .int .i64 0, .int .i64 1048576, .int .i64 2000, .int .i64 200, .int .i64 50, .int .i64 1048576, .int .i64 50, .int .i64 1048576] : List Value).toArray 62 (0, 0))) := q1; have F2 := Lib.hid (row_far F2.out q2 (by intro h; have := Option.some.inj h; have := G.out; omega)); have BB := Lib.hid (grownBy_below q2 BB.out (by have := G.out; omega) BB.out.size); clear q1 q2; go_frame))
  go_upto_region 24 with ((with_reducible show wpList _ _ _ _ _ _); (refine wpList_store_part rfl 3 (.tmp 32) (.const (.int .i64 1048576)) rfl g3 3 [.int .i64 5, .int .i64 0, .int .i64 1048576] [.int .i64 2000] [.int .i64 200, .int .i64 50, .int .i64 1048576, .int .i64 50, .int .i64 1048576] [.int .i64 1048576] 62 (.int .i64 1048576) rfl rfl rfl rfl rfl F3.out (by kernel_rfl) (fun u hu => by obtain rfl := List.mem_singleton.1 hu; rfl) ?_; intro v6 q1 q2; have F3 : Hid (v6.heap[g3]? = some (.cells ([.int .i64 5, .int .i64 0, .int .i64 1048576, .int .i64 1048576, .int .i64 200, .int .i64 50, .int .i64 1048576, .int .i64 50, .int .i64 1048576] : List Value).toArray 62 (0, 0))) := q1; have F2 := Lib.hid (row_far F2.out q2 (by intro h; have := Option.some.inj h; have := G.out; omega)); have BB := Lib.hid (grownBy_below q2 BB.out (by have := G.out; omega) BB.out.size); clear q1 q2; go_frame))
  go_wp2_with ((with_reducible show wpList _ _ _ _ _ _); first | (refine wpList_load_row rfl 62 (.tmp 3) rfl g3 rfl 62 ([.int .i64 5, .int .i64 0, .int .i64 1048576, .int .i64 1048576, .int .i64 200, .int .i64 50, .int .i64 1048576, .int .i64 50, .int .i64 1048576] : List Value).toArray (0, 0) _ F3.out Tryz.underlying62 rfl (by kernel_rfl) ?_; go_frame) | (refine wpList_store_row rfl 62 (.tmp 2) (.tmp 33) rfl g2 ([.int .i64 5, .int .i64 0, .int .i64 1048576, .int .i64 1048576, .int .i64 200, .int .i64 50, .int .i64 1048576, .int .i64 50, .int .i64 1048576] : List Value).toArray rfl rfl 62 _ F2.out (by kernel_rfl) rfl (by kernel_rfl) ?_; go_frame))
  refine bodyPost_ret (results_cell_row rfl _ _ g2 62 ([.int .i64 5, .int .i64 0, .int .i64 1048576, .int .i64 1048576, .int .i64 200, .int .i64 50, .int .i64 1048576, .int .i64 50, .int .i64 1048576] : List Value).toArray (0, 0) _ rfl (setRow_heap _ _ _ _ _ _ F2.out) Tryz.underlying62 rfl (by kernel_rfl)) rfl ?_
  exact ⟨rfl, below_setRow BB.out G.out.1 _⟩
theorem mkrules_any (n : Int) (hn : -9223372036854775808 ≤ n ∧ n ≤ 9223372036854775807) (w : World) :
    Calls Tryz.prog 16 #[.int .i64 n] w fun e w' => e = .returned (.agg (ruL (ruN (numb n 6).toNat)).toArray) ∧ Below w.heap.size w w' := by
  obtain ⟨k, hk, h6⟩ := numb_nat n 6 (by omega)
  have hk : numb n 6 = (k : Int) := hk
  rw [hk, Int.toNat_natCast]
  match k, h6, hk with
  | 0, _, hk => exact mkrules_0 n hk hn w
  | 1, _, hk => exact mkrules_1 n hk hn w
  | 2, _, hk => exact mkrules_2 n hk hn w
  | 3, _, hk => exact mkrules_3 n hk hn w
  | 4, _, hk => exact mkrules_4 n hk hn w
  | 5, _, hk => exact mkrules_5 n hk hn w
end Go.Proofs.YtckkcpplanfmhaaGreatDoor.Sha

/-
  The statements of chapter 16: what each asks first. Conditions: the errors are there.
-/
namespace Go.Proofs.YtckkcpplanfmhaaGreatDoor.Sha
open Go Go.RowKit
set_option maxHeartbeats 2000000 in
set_option maxRecDepth 100000 in
theorem coblk0_any (E : Nat → Addr) (w : World) (av : Value) (bc rc : List Value) (hE : CoE w E) :
    Calls Tryz.prog 21 #[av, .agg bc.toArray, .int .i64 0, .slice none 0 0, .agg rc.toArray] w fun e w' => e = .returned (.tuple #[.slice none 0 0, .int .u64 0, errV E 2]) ∧ Below w.heap.size w w' := by
  have HE := Lib.hid hE
  clear hE
  go_enter Tryz.func21, Tryz.ntmps21
  go_upto_region 1 with fail
  have b1 := ((Below.refl w.heap.size w).alloc (Nat.le_refl _) (.cells bc.toArray 71 (0, 0))).alloc (by simp) (.cells rc.toArray 62 (0, 0))
  generalize hw1 : World.alloc _ _ = w1
  have e1 : (w.alloc (.cells bc.toArray 71 (0, 0))).alloc (.cells rc.toArray 62 (0, 0)) = w1 := hw1
  rw [e1] at b1
  have B1 := Lib.hid b1
  clear b1 hw1 e1
  go_wp2_with fail
  refine (coas_any w1 0 none 0 0).mono ?_
  rintro e w2 ⟨rfl, rfl⟩
  have hd : decide ((1 : Int) ≤ 0 ∧ ((0 : Nat) : Int) = 0) = false := by decide
  rw [hd]
  clear hd
  have HEQ := Lib.hid (HE.out.below B1.out)
  have qe : w1.cell? ⟨0, 0, none⟩ = some (.iface 250 (.pointer (some (E 1)))) := HEQ.out 1 (by omega)
  have QE := Lib.hid qe
  clear qe HEQ
  go_upto_region 2 with fail
  refine wp_region_held_drew (S := (fun w' => Below w1.heap.size w1 w')) (by kernel_rfl) (Below.drew (Below.refl _ _)) (fun hHeld => ?_)
  generalize hwd : w1.drew = wd at  hHeld ⊢
  clear hwd
  refine held_take (i := 0) (v := (.iface 250 (.pointer (some (E 1))))) rfl (by kernel_rfl) (by kernel_rfl) (by kernel_rfl) (fun _ _ _ h => h) (yieldsIf_load_one (by rfl) 37 _ rfl 0 (0) rfl _ _ (fun w' hw' => cell_below QE.out hw') Tryz.underlying37 rfl) hHeld ?_
  go_frame
  refine held_take (i := 1) (v := (.slice none 0 0)) rfl (by kernel_rfl) (by kernel_rfl) (by kernel_rfl) (fun _ _ _ h => h) (Or.inl ⟨by rfl, fun w' _ => by kernel_rfl⟩) hHeld ?_
  go_frame
  refine held_take (i := 2) (v := (.int .u64 0)) rfl (by kernel_rfl) (by kernel_rfl) (by kernel_rfl) (fun _ _ _ h => h) (Or.inl ⟨by rfl, fun w' _ => by kernel_rfl⟩) hHeld ?_
  go_frame
  refine held_take (i := 3) (v := (.iface 250 (.pointer (some (E 1))))) rfl (by kernel_rfl) (by kernel_rfl) (by kernel_rfl) (fun _ _ _ h => h) (Or.inl ⟨by rfl, fun w' _ => by kernel_rfl⟩) hHeld ?_
  go_frame
  refine wpAnyH_done (by kernel_rfl) ?_ _
  have BY := Lib.hid (B1.out.trans (hHeld.mono B1.out.size))
  clear hHeld
  go_wp2_with fail
  go_ret3
  exact ⟨rfl, BY.out⟩
set_option maxHeartbeats 2000000 in
set_option maxRecDepth 100000 in
theorem cofirst_any (E : Nat → Addr) (w : World) (hE : Errs w E) :
    Calls Tryz.prog 7 #[] w fun e w' => e = .returned (.bool true) ∧ Below w.heap.size w w' := by
  have HE := Lib.hid hE
  clear hE
  go_enter Tryz.func7, Tryz.ntmps7
  go_upto_region 2 with fail
  have b1 := (Below.refl w.heap.size w).alloc (Nat.le_refl _) (.cells #[.map none] 76 (0, 0))
  generalize hw1 : World.alloc _ _ = w1
  have e1 : w.alloc (.cells #[.map none] 76 (0, 0)) = w1 := hw1
  rw [e1] at b1
  obtain ⟨g1, hg1⟩ : ∃ g, g = w.heap.size := ⟨_, rfl⟩
  rw [← hg1]
  have B1 := Lib.hid b1
  clear b1 hw1 e1 hg1
  go_wp2_with fail
  refine (rstart_any w1).mono ?_
  rintro e w2 ⟨v, rfl, ⟨_, tv, rfl, _⟩, bb⟩
  have B2 := Lib.hid (B1.out.trans (bb.mono B1.out.size))
  clear bb
  obtain ⟨bc, hbc⟩ : ∃ l, l = blL startX.head tv := ⟨_, rfl⟩
  rw [← hbc]
  clear hbc
  go_wp2_with fail
  refine (mkrules_any 0 (by omega) w2).mono ?_
  rintro e w3 ⟨rfl, bb⟩
  have B3 := Lib.hid (B2.out.trans (bb.mono B2.out.size))
  clear bb
  obtain ⟨rc, hrc⟩ : ∃ l, l = ruL (ruN (numb 0 6).toNat) := ⟨_, rfl⟩
  rw [← hrc]
  clear hrc
  go_wp2_with fail
  refine (coblk0_any E w3 _ bc rc (HE.out.below B3.out).co).mono ?_
  rintro e w4 ⟨rfl, bb⟩
  have B4 := Lib.hid (B3.out.trans (bb.mono B3.out.size))
  clear bb
  go_wp2_with fail
  refine (is_any E 2 102 true rfl w4 (HE.out.below B4.out) (by omega)).mono ?_
  rintro e w5 ⟨rfl, bb⟩
  have B5 := Lib.hid (B4.out.trans (bb.mono B4.out.size))
  clear bb
  go_wp2_with fail
  go_ret
  exact ⟨rfl, B5.out⟩
end Go.Proofs.YtckkcpplanfmhaaGreatDoor.Sha
