/-
  Texts of this proof joined into one file: RefTxV, VlVals. What each holds, and under which conditions, its own first sentence tells.
-/
import Derived.Test.YtckkcpplanfmhaaGreatDoorMg12
import Derived.Test.YtckkcpplanfmhaaGreatDoorMg06
import Derived.Test.YtckkcpplanfmhaaGreatDoorMg05
import Derived.Test.YtckkcpplanfmhaaGreatDoorMg04
/-
  The statements' own: whether a transaction may stand at a height, its fee or its first fault. Nothing that was there turns. Conditions: the transaction, its coins, whether each is there and the pasts lie in memory; at most a million inputs and outputs; heights within a million; keys of fewer than 2^45 bytes.
-/
namespace Go.Proofs.YtckkcpplanfmhaaGreatDoor.Sha
open Go Go.RowKit
def fltC (cs : List Value) : Int := match cs with | .int _ c :: _ => c | _ => 0
def fV (c : Int) (a : Bool) (b : Int) (d : Bool) (e : Int) : List Value := [.int .i64 c, .bool a, .int .i64 b, .bool d, .int .i64 e]
theorem fee_shape (t : TTx) (ms : List TMn) : ∃ c a b d e, (feeL t ms).2 = fV c a b d e := by
  unfold feeL
  split
  · exact ⟨_, _, _, _, _, rfl⟩
  · split
    · exact ⟨_, _, _, _, _, rfl⟩
    · unfold feeV
      split
      · exact ⟨_, _, _, _, _, rfl⟩
      · split
        · exact ⟨_, _, _, _, _, rfl⟩
        · exact ⟨_, _, _, _, _, rfl⟩
theorem fV_all (c : Int) (a : Bool) (b : Int) (d : Bool) (e : Int) : (fV c a b d e).toArray.all (·.oneCell') = true := by
  rw [Array.all_eq_true_iff_forall_mem]
  intro x hx
  simp [fV] at hx
  rcases hx with rfl | rfl | rfl | rfl | rfl <;> rfl
def boC (b : Bool) : List Value := [.bool b]
def tuB (ms : List TMn) (es : List Bool) (height mat : Int) : List (Bool × Bool) := (es.zip ms).map fun e => (e.1, ripeB e.2 height mat)
def pzL (ms : List TMn) (ps : List Nat) : List Nat := ms.map fun m => ps.getD (behI ps m.height) 0
def txW (t : TTx) (ms : List TMn) (height : Int) (ps : List Nat) : Nat × List Value :=
  if fltC (feeL t ms).2 ≠ 0 then (0, (feeL t ms).2) else
  if (finB t height (ps.getD (ps.length - 1) 0) && metB t (ms.map (·.height)) (pzL ms ps) height (ps.getD (ps.length - 1) 0)) = false then (0, fC 116) else feeL t ms
def txV (t : TTx) (ms : List TMn) (es : List Bool) (height : Int) (ps : List Nat) (mat : Int) : Nat × List Value :=
  match (tuB ms es height mat).findIdx? (fun b => !(b.1 && b.2)) with
  | some i => (0, pC (if ((tuB ms es height mat).getD i (true, true)).1 then 115 else 113) (i : Int))
  | none => txW t ms height ps
theorem tuB_get {ms : List TMn} {es : List Bool} {height mat : Int} {i : Nat} {b : Bool} {m : TMn} (h1 : es[i]? = some b) (h2 : ms[i]? = some m) : (tuB ms es height mat)[i]? = some (b, ripeB m height mat) := by
  unfold tuB
  have e : (es.zip ms)[i]? = some (b, m) := by
    rw [List.getElem?_zip_eq_some]
    exact ⟨h1, h2⟩
  rw [List.getElem?_map, e]
  rfl
theorem tu_at {B : List (Bool × Bool)} {i : Nat} {x : Bool × Bool} (h : ∀ j, j < i → B[j]? = some (true, true)) (hi : B[i]? = some x) (hx : (x.1 && x.2) = false) : B.findIdx? (fun b => !(b.1 && b.2)) = some i := by
  have hl := (List.getElem?_eq_some_iff.1 hi).1
  rw [List.findIdx?_eq_some_iff_getElem]
  refine ⟨hl, by rw [(List.getElem?_eq_some_iff.1 hi).2, hx]; rfl, fun j hj => ?_⟩
  rw [(List.getElem?_eq_some_iff.1 (h j hj)).2]
  decide
theorem tu_no {B : List (Bool × Bool)} (h : ∀ j, j < B.length → B[j]? = some (true, true)) : B.findIdx? (fun b => !(b.1 && b.2)) = none := by
  rw [List.findIdx?_eq_none_iff]
  intro b hb
  obtain ⟨j, hj, rfl⟩ := List.mem_iff_getElem.1 hb
  rw [(List.getElem?_eq_some_iff.1 (h j hj)).2]
  rfl
theorem bool_cell {w : World} {b o i : Nat} {x : Bool} (h : w.rangeAt b (o + i * 1) (boC x)) : w.cell? ⟨b, o + i, none⟩ = some (.bool x) := by
  have := h 0 _ rfl
  simpa using this
theorem U32At.below {w w' : World} {v : Value} {l : List Nat} (h : U32At w v l) (hb : Below w.heap.size w w') : U32At w' v l := by
  obtain ⟨sp, cap, rfl, hs⟩ := h
  refine ⟨sp, cap, rfl, fun h0 => ?_⟩
  obtain ⟨hc, b, o, hsp, hg⟩ := hs h0
  exact ⟨hc, b, o, hsp, fun i x hx => cell_below (hg i x hx) hb⟩
def TxI (B : List (Bool × Bool)) (hs : List Int) (ps : List Nat) (n base : Nat) (w : World) (vh vp vi : Value) (wr : World) : Prop :=
  ∃ (k : Nat) (hv pv : Value), hv = vh ∧ pv = vp ∧ vi = .int .i64 (k : Int) ∧ k ≤ n ∧ (∀ j, j < k → B[j]? = some (true, true)) ∧ RwOwn 1 3 base wr hv ((hs.take k).map intC) ∧ RwOwn 1 23 base wr pv ((ps.take k).map u32C) ∧ Below w.heap.size w wr
set_option maxHeartbeats 4000000 in
set_option maxRecDepth 100000 in
theorem rtx_all (w : World) (v vm ve vp : Value) (t : TTx) (ms : List TMn) (es : List Bool) (ps : List Nat) (height mat : Int) (h : TxAt w v t) (hh : RwAt 35 w vm (ms.map mnL)) (he : RwAt 1 w ve (es.map boC)) (hp : U32At w vp ps) (hl : ms.length = t.ins.length) (hle : es.length = t.ins.length) (hok : ∀ m ∈ ms, MnOk m) (hhe : ∀ m ∈ ms, -1000000 ≤ m.height ∧ m.height ≤ 1000000) (hov : ∀ y ∈ t.outs, y.val ≤ 18446744073709551615) (hm : t.ins.length ≤ 1000000) (hmo : t.outs.length ≤ 1000000) (hp0 : 0 < ps.length) (hpm : ps.length ≤ 1000000) (hpb : ∀ p ∈ ps, p ≤ 4294967295) (hmat : -1000000 ≤ mat ∧ mat ≤ 1000000) :
    Calls Tryz.prog 13 #[v, vm, ve, .int .i64 height, vp, .int .i64 mat] w fun e w' => e = .returned (.tuple #[.int .u64 ((txV t ms es height ps mat).1 : Int), .agg (txV t ms es height ps mat).2.toArray]) ∧ Below w.heap.size w w' := by
  obtain ⟨i0, hi, hz0, hz1, hz2⟩ := info_parts info_int
  obtain ⟨u0, hu, hy0, hy1, hy2⟩ := info_parts info_u32
  have h0 := h
  have hh0 := hh
  obtain ⟨_, iv, ov, rfl, hin, hou⟩ := h
  have TONE : Hid ((txL t iv ov).toArray.all (·.oneCell') = true) := tx_one hin hou
  have LT : Hid ((txL t iv ov).toArray.size = 4) := rfl
  have CO : Hid (∀ (W : World) (g : Nat), W.heap[g]? = some (.cells (txL t iv ov).toArray 27 (0, 0)) → W.cell? ⟨g, 1, none⟩ = some iv) := fun W g hg => (tx_cells hg).2.1
  obtain ⟨past, hpast⟩ : ∃ p, p = ps.getD (ps.length - 1) 0 := ⟨_, rfl⟩
  have pastb : past ≤ 4294967295 := by
    rw [hpast, List.getD_eq_getElem?_getD]
    cases hj : ps[ps.length - 1]? with
    | none => simp
    | some p => exact hpb p (List.mem_of_getElem? hj)
  have FEE : Hid (∀ W, Below w.heap.size w W → Calls Tryz.prog 41 #[.agg (txL t iv ov).toArray, vm] W fun e w' => e = .returned (.tuple #[.int .u64 ((feeL t ms).1 : Int), .agg (feeL t ms).2.toArray]) ∧ Below W.heap.size W w') := fun W hW => rfee_all W _ vm t ms (h0.below hW) (hh0.below hW) hok hov hm hmo
  have FIN : Hid (∀ W, Below w.heap.size w W → Calls Tryz.prog 42 #[.agg (txL t iv ov).toArray, .int .i64 height, .int .u32 (past : Int)] W fun e w' => e = .returned (.bool (finB t height past)) ∧ Below W.heap.size W w') := fun W hW => rfinal_any W _ t height past (h0.below hW) hm
  have MET : Hid (∀ W vh vp, Below w.heap.size w W → RwAt 1 W vh ((ms.map (·.height)).map intC) → RwAt 1 W vp ((pzL ms ps).map u32C) → Calls Tryz.prog 43 #[.agg (txL t iv ov).toArray, vh, vp, .int .i64 height, .int .u32 (past : Int)] W fun e w' => e = .returned (.bool (metB t (ms.map (·.height)) (pzL ms ps) height past)) ∧ Below W.heap.size W w') := fun W vh vp hW x1 x2 => rmet_any W _ vh vp t _ _ height past (h0.below hW) x1 x2 (by rw [List.length_map]; exact hl) (by unfold pzL; rw [List.length_map]; exact hl) hm (fun p hp => by
    obtain ⟨m, _, rfl⟩ := List.mem_map.1 hp
    show ps.getD (behI ps m.height) 0 ≤ _
    rw [List.getD_eq_getElem?_getD]
    cases hj : ps[behI ps m.height]? with
    | none => simp
    | some p => exact hpb p (List.mem_of_getElem? hj)) pastb
  have BEH : Hid (∀ W m, m ∈ ms → Below w.heap.size w W → Calls Tryz.prog 40 #[vp, .int .i64 m.height] W fun e w' => e = .returned (.int .u32 (ps.getD (behI ps m.height) 0 : Int)) ∧ W = w') := fun W m hmm hW => rbehind_any W vp ps m.height (hp.below hW) hp0 hpm (hhe m hmm).1 (hhe m hmm).2
  have RIP : Hid (∀ W m, m ∈ ms → Calls Tryz.prog 39 #[.agg (mnL m).toArray, .int .i64 height, .int .i64 mat] W fun e w' => e = .returned (.bool (ripeB m height mat)) ∧ Below W.heap.size W w') := fun W m hmm => rripe_any W m height mat (hok m hmm) (by have := hhe m hmm; omega) (by have := hhe m hmm; omega)
  obtain ⟨sq, cq, rfl, hsq⟩ := hp
  obtain ⟨hcq, bq, oq, rfl, hgq⟩ := hsq hp0
  have PC : Hid (∀ W, Below w.heap.size w W → W.cell? ⟨bq, oq + (ps.length - 1), none⟩ = some (.int .u32 (past : Int))) := fun W hW => by
    refine cell_below (hgq _ past ?_) hW
    rw [hpast, List.getD_eq_getElem?_getD, List.getElem?_eq_getElem (by omega)]
    rfl
  obtain ⟨np, hnp⟩ : ∃ np, np = ps.length := ⟨_, rfl⟩
  rw [← hnp] at PC hp0 hpm
  obtain ⟨si, ci, rfl, _, hgi⟩ := hin
  obtain ⟨sm, cm, rfl⟩ := hh.shape
  obtain ⟨sv, ce, rfl⟩ := he.shape
  simp only [List.length_map] at hh he FEE ⊢
  obtain ⟨n, hn⟩ : ∃ n, n = t.ins.length := ⟨_, rfl⟩
  rw [← hn] at hm CO TONE LT FEE FIN MET hgi hl hle ⊢
  rw [hl] at hh FEE ⊢
  rw [hle] at he ⊢
  rw [← hnp] at BEH ⊢
  have N := Lib.hid hn
  have NM := Lib.hid hl
  have NE := Lib.hid hle
  have HH := Lib.hid hh
  have HE := Lib.hid he
  have MO := Lib.hid hok
  obtain ⟨B0, hB0⟩ : ∃ B, B = tuB ms es height mat := ⟨_, rfl⟩
  have BG : Hid (∀ (i : Nat) (b : Bool) (m : TMn), es[i]? = some b → ms[i]? = some m → B0[i]? = some (b, ripeB m height mat)) := fun i b m h1 h2 => by rw [hB0]; exact tuB_get h1 h2
  have BLN : Hid (B0.length = n) := by show _ = _; rw [hB0]; unfold tuB; simp; omega
  obtain ⟨hsL, hhs⟩ : ∃ l, l = ms.map (·.height) := ⟨_, rfl⟩
  obtain ⟨pzl, hpz⟩ : ∃ l, l = pzL ms ps := ⟨_, rfl⟩
  rw [← hhs, ← hpz] at MET
  have HSE := Lib.hid hhs
  have PZE : Hid (pzl = ms.map fun m => ps.getD (behI ps m.height) 0) := hpz
  have FE : Hid (txV t ms es height ps mat = match B0.findIdx? (fun b => !(b.1 && b.2)) with | some i => (0, pC (if (B0.getD i (true, true)).1 then 115 else 113) (i : Int)) | none => txW t ms height ps) := by rw [hB0]; rfl
  have FW : Hid (txW t ms height ps = if fltC (feeL t ms).2 ≠ 0 then (0, (feeL t ms).2) else if (finB t height past && metB t hsL pzl height past) = false then (0, fC 116) else feeL t ms) := by rw [hhs, hpz, hpast]; rfl
  obtain ⟨R, hR⟩ : ∃ R, R = txV t ms es height ps mat := ⟨_, rfl⟩
  rw [← hR] at FE ⊢
  obtain ⟨c, a, b, d, e, hfs⟩ := fee_shape t ms
  obtain ⟨fe, hfe⟩ : ∃ fe, fe = (feeL t ms).1 := ⟨_, rfl⟩
  have FP : Hid (feeL t ms = (fe, fV c a b d e)) := by show _ = _; rw [hfe, ← hfs]
  rw [FP.out] at FW FEE
  clear FP hfe hfs
  obtain ⟨fb, hfb⟩ : ∃ fb, fb = finB t height past := ⟨_, rfl⟩
  obtain ⟨mb, hmb⟩ : ∃ mb, mb = metB t hsL pzl height past := ⟨_, rfl⟩
  rw [← hfb] at FW FIN
  rw [← hmb] at FW MET
  obtain ⟨ct, hct⟩ : ∃ ct, ct = txL t (.slice si n ci) ov := ⟨_, rfl⟩
  rw [← hct] at TONE LT CO FEE FIN MET ⊢
  clear hn hl hle hgi hh he hh0 hok hB0 hhs hpz hR hfb hmb hct hou h0 hmo hov hpast hsq hgq hcq hnp hhe hpb
  go_enter Tryz.func13, Tryz.ntmps13
  go_upto_region 1 with fail
  have f2 := row_below (heap_alloc_new w (.cells ct.toArray 27 (0, 0))) ((Below.refl _ _).alloc (Nat.le_refl _) (.cells (fC 0).toArray 55 (0, 0)))
  have f5 := heap_alloc_new (w.alloc (.cells ct.toArray 27 (0, 0))) (.cells (fC 0).toArray 55 (0, 0))
  have b1 := ((Below.refl w.heap.size w).alloc (Nat.le_refl _) (.cells ct.toArray 27 (0, 0))).alloc (by simp) (.cells (fC 0).toArray 55 (0, 0))
  rw [World.size_alloc] at f5
  generalize hw1 : World.alloc _ _ = w1
  have e1 : (w.alloc (.cells ct.toArray 27 (0, 0))).alloc (.cells (fC 0).toArray 55 (0, 0)) = w1 := hw1
  rw [e1] at f2 f5 b1
  obtain ⟨g2, hg2⟩ : ∃ g2, g2 = w.heap.size := ⟨_, rfl⟩
  obtain ⟨g5, hg5⟩ : ∃ g5, g5 = w.heap.size + 1 := ⟨_, rfl⟩
  have G5 : Hid (w.heap.size ≤ g5) := by show _ ≤ _; omega
  rw [← hg5] at f5
  rw [← hg2] at f2
  rw [← hg5, ← hg2]
  have F2 := Lib.hid f2
  have F5 := Lib.hid f5
  have B1 := Lib.hid b1
  clear f2 f5 b1 hw1 e1 hg2 hg5
  obtain ⟨base, hbase⟩ : ∃ base, base = w1.heap.size := ⟨_, rfl⟩
  have BS := Lib.hid hbase
  go_wp2_with fail
  go_loopw [14, 15, 16] (fun vh vp vi wr => TxI B0 hsL pzl n base w1 vh vp vi wr) (fun _ _ vi _ => n - (intOf vi).toNat)
  case atStart => exact ⟨0, _, _, rfl, rfl, rfl, Nat.zero_le _, fun j hj => absurd hj (by omega), RwOwn.nil _ _ _ _, RwOwn.nil _ _ _ _, Below.refl _ _⟩
  case round =>
    obtain ⟨k, hv, pv, rfl, rfl, rfl, hk, hopn, hrh, hrp, hbel⟩ := hrel
    have HV := Lib.hid hrh
    have PV := Lib.hid hrp
    have OA := Lib.hid hopn
    have B := Lib.hid hbel
    have BB := Lib.hid (B1.out.trans (hbel.mono B1.out.size))
    clear hopn hrh hrp hbel
    have c1 := CO.out _ _ (row_below F2.out B.out)
    by_cases hlt : k < n
    · obtain ⟨m, hmk⟩ : ∃ m, ms[k]? = some m := ⟨_, List.getElem?_eq_getElem (by rw [NM.out]; exact hlt)⟩
      obtain ⟨eb, hek⟩ : ∃ b, es[k]? = some b := ⟨_, List.getElem?_eq_getElem (by rw [NE.out]; exact hlt)⟩
      obtain ⟨bm, om, rfl, hgm⟩ := HH.out.get (by omega)
      obtain ⟨be, oe, rfl, hge⟩ := (HE.out.below BB.out).get (by omega)
      have rm0 := hgm k (mnL m) (by rw [List.getElem?_map, hmk]; rfl)
      have rm := range_below rm0 BB.out
      have ce1 := bool_cell (hge k (boC eb) (by rw [List.getElem?_map, hek]; rfl))
      have mmem := List.mem_of_getElem? hmk
      have om1 := MO.out m mmem
      have CH := Lib.hid (mn_height om1.1 rm0)
      have RM := Lib.hid rm
      have LM : Hid ((mnL m).length = 35) := mnL_length om1
      have BK := Lib.hid (BG.out k eb m hek hmk)
      have RP : Hid (∀ W, Calls Tryz.prog 39 #[.agg (mnL m).toArray, .int .i64 height, .int .i64 mat] W fun e w' => e = .returned (.bool (ripeB m height mat)) ∧ Below W.heap.size W w') := fun W => RIP.out W m mmem
      obtain ⟨hm1, hhm1⟩ : ∃ x, x = m.height := ⟨_, rfl⟩
      obtain ⟨pm1, hpm1⟩ : ∃ x, x = ps.getD (behI ps m.height) 0 := ⟨_, rfl⟩
      have BE : Hid (∀ W, Below w.heap.size w W → Calls Tryz.prog 40 #[.slice (some ⟨bq, oq, none⟩) np cq, .int .i64 hm1] W fun e w' => e = .returned (.int .u32 (pm1 : Int)) ∧ W = w') := fun W hW => by rw [hhm1, hpm1]; exact BEH.out W m mmem hW
      have HT : Hid (hsL.take (k + 1) = hsL.take k ++ [hm1]) := by
        have e : hsL[k]? = some hm1 := by rw [HSE.out, List.getElem?_map, hmk, hhm1]; rfl
        show _ = _
        rw [List.take_succ_eq_append_getElem (List.getElem?_eq_some_iff.1 e).1, (List.getElem?_eq_some_iff.1 e).2]
      have PT : Hid (pzl.take (k + 1) = pzl.take k ++ [pm1]) := by
        have e : pzl[k]? = some pm1 := by rw [PZE.out, List.getElem?_map, hmk, hpm1]; rfl
        show _ = _
        rw [List.take_succ_eq_append_getElem (List.getElem?_eq_some_iff.1 e).1, (List.getElem?_eq_some_iff.1 e).2]
      rw [← hhm1] at CH
      obtain ⟨rb, hrb⟩ : ∃ r, r = ripeB m height mat := ⟨_, rfl⟩
      rw [← hrb] at BK RP
      obtain ⟨cmn, hcm⟩ : ∃ l, l = mnL m := ⟨_, rfl⟩
      rw [← hcm] at RM LM RP
      have DH : Hid (((hsL.take k).map intC).length ≤ 1000000) := by show _ ≤ _; rw [List.length_map, List.length_take]; omega
      have DP : Hid (((pzl.take k).map u32C).length ≤ 1000000) := by show _ ≤ _; rw [List.length_map, List.length_take]; omega
      have i0' : 0 ≤ (k : Int) := by omega
      have i1' : (k : Int) < (n : Int) := by omega
      clear hmk hek hgm hge rm rm0 mmem om1 hhm1 hpm1 hrb hcm
      cases eb with
      | false =>
        have RV : Hid (R = (0, pC 113 (k : Int))) := by show _ = _; rw [FE.out, tu_at OA.out BK.out rfl]; show (0, pC (if (B0.getD k (true, true)).1 then 115 else 113) (k : Int)) = _; rw [List.getD_eq_getElem?_getD, BK.out]; rfl
        go_wp2_with fail
        refine (placed_any 113 (k : Int) (by decide) wr).mono ?_
        rintro e w8 ⟨rfl, bb⟩
        have F5R := Lib.hid (row_below (row_below F5.out B.out) bb)
        have BZ := Lib.hid (BB.out.trans (bb.mono BB.out.size))
        clear bb
        go_wp2_with ((with_reducible show wpList _ _ _ _ _ _); (refine wpList_store_row rfl 55 (.tmp 13) (.tmp 33) rfl g5 (pC 113 (k : Int)).toArray rfl rfl 55 _ F5R.out (by kernel_rfl) rfl (placed_all _ _) ?_; go_frame))
        refine bodyPost_ret (results_tc rfl _ _ g5 55 (pC 113 (k : Int)).toArray (0, 0) _ rfl (setRow_heap _ _ _ _ _ _ F5R.out) Tryz.underlying55 rfl (by kernel_rfl)) rfl ?_
        exact ⟨by rw [RV.out]; rfl, below_setRow BZ.out (by have := G5.out; omega) _⟩
      | true =>
        go_wp2_with ((with_reducible show wpList _ _ _ _ _ _); (refine wpList_load_mid rfl 46 (.tmp 36) rfl bm (om + k * 35) rfl cmn _ RM.out Tryz.underlying46 rfl (by rw [LM.out]; kernel_rfl) ?_; go_frame))
        refine (RP.out wr).mono ?_
        rintro e w8 ⟨rfl, bb⟩
        have BR := Lib.hid (B.out.trans (bb.mono B.out.size))
        have BZ := Lib.hid (BB.out.trans (bb.mono BB.out.size))
        have F5R := Lib.hid (row_below (row_below F5.out B.out) bb)
        have ch := cell_below CH.out BZ.out
        have HV := Lib.hid (HV.out.keep bb)
        have PV := Lib.hid (PV.out.keep bb)
        clear bb c1 ce1
        cases rb with
        | false =>
          have RV : Hid (R = (0, pC 115 (k : Int))) := by show _ = _; rw [FE.out, tu_at OA.out BK.out rfl]; show (0, pC (if (B0.getD k (true, true)).1 then 115 else 113) (k : Int)) = _; rw [List.getD_eq_getElem?_getD, BK.out]; rfl
          go_wp2_with fail
          refine (placed_any 115 (k : Int) (by decide) w8).mono ?_
          rintro e w9 ⟨rfl, bb⟩
          have F5R := Lib.hid (row_below F5R.out bb)
          have BZ := Lib.hid (BZ.out.trans (bb.mono BZ.out.size))
          clear bb
          go_wp2_with ((with_reducible show wpList _ _ _ _ _ _); (refine wpList_store_row rfl 55 (.tmp 13) (.tmp 43) rfl g5 (pC 115 (k : Int)).toArray rfl rfl 55 _ F5R.out (by kernel_rfl) rfl (placed_all _ _) ?_; go_frame))
          refine bodyPost_ret (results_tc rfl _ _ g5 55 (pC 115 (k : Int)).toArray (0, 0) _ rfl (setRow_heap _ _ _ _ _ _ F5R.out) Tryz.underlying55 rfl (by kernel_rfl)) rfl ?_
          exact ⟨by rw [RV.out]; rfl, below_setRow BZ.out (by have := G5.out; omega) _⟩
        | true =>
          have ON : Hid (∀ j, j < k + 1 → B0[j]? = some (true, true)) := fun j hj => by
            by_cases e : j = k
            · rw [e]; exact BK.out
            · exact OA.out j (by omega)
          have HSZ := Lib.hid BR.out.size
          go_wp2_with (at_builtin; refine wpList_append_own_at _ rfl _ _ 109 rfl base 3 i0 (.int .i64 0) 1 8 Tryz.underlying109 hi hz0 hz1 hz2 rfl (by decide) hv _ ((hsL.take k).map intC).flatten rfl (HV.out.1.alloc _) ⟨w8.heap.size, 0, none⟩ 1 1 [.int .i64 hm1] rfl rfl (cell_one_new _ _ _) (fun u hu => by obtain rfl := List.mem_singleton.1 hu; rfl) (by have := DH.out; unfold maxLen; omega) (by have := DH.out; omega) (by have := BS.out; have := HSZ.out; simp; omega) ?_; intro v3 w3 q1 q2 _ q4; have HV3 : Hid (RwOwn 1 3 base w3 v3 (((hsL.take k).map intC) ++ [intC hm1])) := RwOwn.push HV.out.2 rfl q1; have al := (Below.refl w8.heap.size w8).alloc (Nat.le_refl _) (.cells #[.int .i64 hm1] 3 (0, 0)); have PV3 := Lib.hid ((PV.out.keep al).kept q2 (ne_swap (own_diff HV.out PV.out))); have B3 := Lib.hid (own_grown (BR.out.alloc BR.out.size _) (by rw [BS.out]; exact Nat.le_refl _) (by have := HSZ.out; simp; omega) (HV.out.1.alloc _) q2); have BZ3 := Lib.hid (B1.out.trans (B3.out.mono B1.out.size)); have ch3 := cell_below CH.out BZ3.out; clear q1 q2 q4 al; go_frame)
          refine (BE.out w3 BZ3.out).mono ?_
          rintro e w4 ⟨rfl, rfl⟩
          have HS3 := Lib.hid B3.out.size
          go_wp2_with (at_builtin; refine wpList_append_own_at _ rfl _ _ 28 rfl base 23 u0 (.int .u32 0) 1 4 Tryz.underlying28 hu hy0 hy1 hy2 rfl (by decide) pv _ ((pzl.take k).map u32C).flatten rfl (PV3.out.1.alloc _) ⟨w3.heap.size, 0, none⟩ 1 1 [.int .u32 (pm1 : Int)] rfl rfl (cell_one_new _ _ _) (fun u hu => by obtain rfl := List.mem_singleton.1 hu; rfl) (by have := DP.out; unfold maxLen; omega) (by have := DP.out; omega) (by have := BS.out; have := HS3.out; simp; omega) ?_; intro v4 w5 q1 q2 _ q4; have PV4 : Hid (RwOwn 1 23 base w5 v4 (((pzl.take k).map u32C) ++ [u32C pm1])) := RwOwn.push PV3.out.2 rfl q1; have al := (Below.refl w3.heap.size w3).alloc (Nat.le_refl _) (.cells #[.int .u32 (pm1 : Int)] 23 (0, 0)); have HV4 := Lib.hid ((HV3.out.keep al).kept q2 (own_diff HV3.out PV3.out)); have B5 := Lib.hid (own_grown (B3.out.alloc B3.out.size _) (by rw [BS.out]; exact Nat.le_refl _) (by have := HS3.out; simp; omega) (PV3.out.1.alloc _) q2); clear q1 q2 q4 al; go_frame)
          go_roundw
          case rel =>
            refine ⟨k + 1, v3, v4, rfl, rfl, by go_num, by omega, ON.out, ?_, ?_, B5.out⟩
            · rw [HT.out, List.map_append]
              exact HV4.out
            · rw [PT.out, List.map_append]
              exact PV4.out
          case measure => simp [intOf] <;> omega
    · have hkn : k = n := by omega
      have bln : B0.length = n := BLN.out
      have RV : Hid (R = txW t ms height ps) := by
        show _ = _
        rw [FE.out, tu_no (fun j (hj : j < B0.length) => OA.out j (by rw [hkn, ← bln]; exact hj))]
      have HVA : Hid (RwOwn 1 3 base wr hv (hsL.map intC)) := by
        have h := HV.out
        rw [hkn, List.take_of_length_le (by rw [HSE.out, List.length_map, NM.out]; exact Nat.le_refl _)] at h
        exact h
      have PVA : Hid (RwOwn 1 23 base wr pv (pzl.map u32C)) := by
        have h := PV.out
        rw [hkn, List.take_of_length_le (by rw [PZE.out, List.length_map, NM.out]; exact Nat.le_refl _)] at h
        exact h
      have i1' : ¬ (k : Int) < (n : Int) := by omega
      have F2R := Lib.hid (row_below F2.out B.out)
      have F5R := Lib.hid (row_below F5.out B.out)
      obtain ⟨nq, hnq⟩ : ∃ nq, nq = np - 1 := ⟨_, rfl⟩
      have wq : IntKind.i64.wrap ((np : Int) - 1) = (nq : Int) := by rw [IntKind.wrap_i64]; omega
      have wq2 : wrap64 ((np : Int) - 1) = (nq : Int) := by rw [← IntWalk.i64_left]; exact wq
      have nq0 : 0 ≤ (nq : Int) := by omega
      have nq1 : (nq : Int) < (np : Int) := by omega
      rw [← hnq] at PC
      clear hkn hlt OA HV PV bln hnq
      go_wp2_with ((with_reducible show wpList _ _ _ _ _ _); (refine wpList_load_row rfl 27 (.tmp 6) rfl g2 rfl 27 ct.toArray (0, 0) _ F2R.out Tryz.underlying27 rfl (by rw [LT.out]; kernel_rfl) ?_; go_frame))
      refine (FEE.out wr BB.out).mono ?_
      rintro e1 w8 ⟨rfl, bb⟩
      have F2R := Lib.hid (row_below F2R.out bb)
      have F5R := Lib.hid (row_below F5R.out bb)
      have BZ := Lib.hid (BB.out.trans (bb.mono BB.out.size))
      have HVA := Lib.hid (HVA.out.keep bb)
      have PVA := Lib.hid (PVA.out.keep bb)
      clear bb c1
      go_upto_region 13 with ((with_reducible show wpList _ _ _ _ _ _); (refine wpList_store_row rfl 55 (.tmp 18) (.tmp 67) rfl w8.heap.size (fV c a b d e).toArray rfl rfl 55 _ (heap_alloc_new _ _) (by kernel_rfl) rfl (fV_all _ _ _ _ _) ?_; go_frame))
      obtain ⟨_, f2, f3, f4⟩ := fill_setup (Below.refl w8.heap.size w8) (fC 0).toArray (fV c a b d e).toArray 55
      generalize hqwf : World.setRow _ _ _ = wf
      have ewf : World.setRow (w8.alloc (.cells (fC 0).toArray 55)) w8.heap.size (fV c a b d e).toArray = wf := hqwf
      rw [ewf] at f2 f3 f4
      obtain ⟨g8, hg8⟩ : ∃ g8, g8 = w8.heap.size := ⟨_, rfl⟩
      rw [← hg8] at f2 ⊢
      have F8 := Lib.hid f2
      have Ng8 : Hid (w8.heap.size ≤ g8) := by show _ ≤ _; rw [hg8]; exact Nat.le_refl _
      have F2Q := Lib.hid (row_below F2R.out f4)
      have F5Q := Lib.hid (row_below F5R.out f4)
      have BQ := Lib.hid (BZ.out.trans (f4.mono BZ.out.size))
      have HVQ := Lib.hid (HVA.out.keep f4)
      have PVQ := Lib.hid (PVA.out.keep f4)
      clear f2 f3 f4 hqwf ewf hg8
      have c8 : wf.cell? ⟨g8, 0, none⟩ = some (.int .i64 c) := by rw [cell_of_row _ _ _ _ _ _ F8.out]; rfl
      by_cases hc0 : c = 0
      · have q3 : ((c : Int) != 0) = false := by simp; omega
        have RX : Hid (R = if (fb && mb) = false then (0, fC 116) else (fe, fV c a b d e)) := by show _ = _; rw [RV.out, FW.out, if_neg (by show ¬ (c ≠ 0); omega)]
        have cp := PC.out wf BQ.out
        clear hc0
        go_wp2_with ((with_reducible show wpList _ _ _ _ _ _); (refine wpList_load_row rfl 27 (.tmp 6) rfl g2 rfl 27 ct.toArray (0, 0) _ F2Q.out Tryz.underlying27 rfl (by rw [LT.out]; kernel_rfl) ?_; go_frame))
        refine (FIN.out wf BQ.out).mono ?_
        rintro e1 w10 ⟨rfl, bb⟩
        have F2Q := Lib.hid (row_below F2Q.out bb)
        have F5Q := Lib.hid (row_below F5Q.out bb)
        have F8 := Lib.hid (row_below F8.out bb)
        have BQ := Lib.hid (BQ.out.trans (bb.mono BQ.out.size))
        have HVQ := Lib.hid (HVQ.out.keep bb)
        have PVQ := Lib.hid (PVQ.out.keep bb)
        clear bb cp c8
        cases fb with
        | false =>
          have RW : Hid (R = (0, fC 116)) := by show _ = _; rw [RX.out]; rfl
          go_wp2_with fail
          refine (bare_any 116 w10).mono ?_
          rintro e1 w13 ⟨rfl, bb⟩
          have F5Z := Lib.hid (row_below F5Q.out bb)
          have BY := Lib.hid (BQ.out.trans (bb.mono BQ.out.size))
          clear bb
          go_wp2_with ((with_reducible show wpList _ _ _ _ _ _); (refine wpList_store_row rfl 55 (.tmp 13) (.tmp 92) rfl g5 (fC 116).toArray rfl rfl 55 _ F5Z.out (by kernel_rfl) rfl (fault_all _) ?_; go_frame))
          refine bodyPost_ret (results_tc rfl _ _ g5 55 (fC 116).toArray (0, 0) _ rfl (setRow_heap _ _ _ _ _ _ F5Z.out) Tryz.underlying55 rfl (by kernel_rfl)) rfl ?_
          exact ⟨by rw [RW.out]; rfl, below_setRow BY.out (by have := G5.out; omega) _⟩
        | true =>
          go_wp2_with ((with_reducible show wpList _ _ _ _ _ _); (refine wpList_load_rowG 27 (.tmp 6) rfl g2 rfl 27 ct.toArray (0, 0) _ F2Q.out Tryz.underlying27 rfl (by rw [LT.out]; kernel_rfl) (by first | rfl | kernel_rfl) ?_; go_frame))
          refine (MET.out w10 hv pv BQ.out (HVQ.out.at (by omega)) (PVQ.out.at (by omega))).mono ?_
          rintro e1 w12 ⟨rfl, bb⟩
          have F5Q := Lib.hid (row_below F5Q.out bb)
          have F8 := Lib.hid (row_below F8.out bb)
          have BQ := Lib.hid (BQ.out.trans (bb.mono BQ.out.size))
          clear bb
          cases mb with
          | false =>
            have RW : Hid (R = (0, fC 116)) := by show _ = _; rw [RX.out]; rfl
            go_wp2_with fail
            refine (bare_any 116 w12).mono ?_
            rintro e1 w13 ⟨rfl, bb⟩
            have F5Z := Lib.hid (row_below F5Q.out bb)
            have BY := Lib.hid (BQ.out.trans (bb.mono BQ.out.size))
            clear bb
            go_wp2_with ((with_reducible show wpList _ _ _ _ _ _); (refine wpList_store_row rfl 55 (.tmp 13) (.tmp 92) rfl g5 (fC 116).toArray rfl rfl 55 _ F5Z.out (by kernel_rfl) rfl (fault_all _) ?_; go_frame))
            refine bodyPost_ret (results_tc rfl _ _ g5 55 (fC 116).toArray (0, 0) _ rfl (setRow_heap _ _ _ _ _ _ F5Z.out) Tryz.underlying55 rfl (by kernel_rfl)) rfl ?_
            exact ⟨by rw [RW.out]; rfl, below_setRow BY.out (by have := G5.out; omega) _⟩
          | true =>
            have RW : Hid (R = (fe, fV c a b d e)) := by show _ = _; rw [RX.out]; rfl
            go_wp2_with fail
            refine wp_region_end (fun w' => Below w12.heap.size w12 w') [3] (by kernel_rfl) (Below.drew (Below.refl _ _)) (fun hHeld => ?_)
            generalize hwd : w12.drew = wd at  hHeld ⊢
            clear hwd
            refine end_take (i := 0) (v := (.int .u64 (fe : Int))) rfl (by kernel_rfl) (by kernel_rfl) (by kernel_rfl) (by kernel_rfl) (fun _ _ _ h => h) (Or.inl ⟨by rfl, fun w' _ => by kernel_rfl⟩) hHeld ?_
            go_frame
            refine end_take (i := 1) (v := (.agg (fV c a b d e).toArray)) rfl (by kernel_rfl) (by kernel_rfl) (by kernel_rfl) (by kernel_rfl) (fun _ _ _ h => h) (yieldsIf_load_row (by rfl) 55 (.tmp 18) rfl g8 rfl 55 (fV c a b d e).toArray (0, 0) _ (fun w' hw' => row_below F8.out hw') Tryz.underlying55 rfl (by kernel_rfl)) hHeld ?_
            go_frame
            refine end_take (i := 2) (v := (.int .u64 (fe : Int))) rfl (by kernel_rfl) (by kernel_rfl) (by kernel_rfl) (by kernel_rfl) (fun _ _ _ h => h) (Or.inl ⟨by rfl, fun w' _ => by kernel_rfl⟩) hHeld ?_
            go_frame
            refine end_last (i := 3) (by kernel_rfl) (by kernel_rfl) rfl (fun K hK => ?_)
            rw [if_pos (by rfl)]
            have F13a := Lib.hid (row_below F5Q.out hHeld)
            have Ba := Lib.hid (BQ.out.trans (hHeld.mono BQ.out.size))
            refine wp_store_whole 55 (.tmp 13) (.tmp 94) rfl g5 (fC 0) (fV c a b d e) 55 rfl rfl rfl F13a.out (by kernel_rfl) (fV_all _ _ _ _ _) ?_
            intro v1 q1 q2
            have FN := Lib.hid q1
            have BN : Hid (Below w.heap.size w v1) := Ba.out.grown q2 Ba.out.size (fun k hk => by cases hk; exact G5.out)
            clear q1 q2 hHeld F13a Ba
            go_frame
            refine hK.out _ _ ?_
            clear hK K
            refine end_done (by kernel_rfl) ?_ _
            go_wp2_with fail
            refine bodyPost_ret (results_tc rfl _ _ g5 55 (fV c a b d e).toArray (0, 0) _ rfl FN.out Tryz.underlying55 rfl (by kernel_rfl)) rfl ?_
            exact ⟨by rw [RW.out]; rfl, BN.out⟩
      · have q3 : ((c : Int) != 0) = true := by simp; omega
        have RW : Hid (R = (0, fV c a b d e)) := by show _ = _; rw [RV.out, FW.out, if_pos (by show c ≠ 0; exact hc0)]
        clear hc0
        go_wp2_with fail
        refine wp_region_end (fun w' => Below wf.heap.size wf w') [2] (by kernel_rfl) (Below.drew (Below.refl _ _)) (fun hHeld => ?_)
        generalize hwd : wf.drew = wd at  hHeld ⊢
        clear hwd
        refine end_take (i := 0) (v := (.agg (fV c a b d e).toArray)) rfl (by kernel_rfl) (by kernel_rfl) (by kernel_rfl) (by kernel_rfl) (fun _ _ _ h => h) (yieldsIf_load_row (by rfl) 55 (.tmp 18) rfl g8 rfl 55 (fV c a b d e).toArray (0, 0) _ (fun w' hw' => row_below F8.out hw') Tryz.underlying55 rfl (by kernel_rfl)) hHeld ?_
        go_frame
        refine end_take (i := 1) (v := (.int .u64 0)) rfl (by kernel_rfl) (by kernel_rfl) (by kernel_rfl) (by kernel_rfl) (fun _ _ _ h => h) (Or.inl ⟨by rfl, fun w' _ => by kernel_rfl⟩) hHeld ?_
        go_frame
        refine end_last (i := 2) (by kernel_rfl) (by kernel_rfl) rfl (fun K hK => ?_)
        rw [if_pos (by rfl)]
        have F13a := Lib.hid (row_below F5Q.out hHeld)
        have Ba := Lib.hid (BQ.out.trans (hHeld.mono BQ.out.size))
        refine wp_store_whole 55 (.tmp 13) (.tmp 71) rfl g5 (fC 0) (fV c a b d e) 55 rfl rfl rfl F13a.out (by kernel_rfl) (fV_all _ _ _ _ _) ?_
        intro v1 q1 q2
        have FN := Lib.hid q1
        have BN : Hid (Below w.heap.size w v1) := Ba.out.grown q2 Ba.out.size (fun k hk => by cases hk; exact G5.out)
        clear q1 q2 hHeld F13a Ba
        go_frame
        refine hK.out _ _ ?_
        clear hK K
        refine end_done (by kernel_rfl) ?_ _
        go_wp2_with fail
        refine bodyPost_ret (results_tc rfl _ _ g5 55 (fV c a b d e).toArray (0, 0) _ rfl FN.out Tryz.underlying55 rfl (by kernel_rfl)) rfl ?_
        exact ⟨by rw [RW.out]; rfl, BN.out⟩
end Go.Proofs.YtckkcpplanfmhaaGreatDoor.Sha

/-
  Package value: the values of a row of coins, of outputs, as a new row. Nothing that was there turns. Conditions: the row lies in memory, at most a million.
-/
namespace Go.Proofs.YtckkcpplanfmhaaGreatDoor.Sha
open Go Go.RowKit
def heL (x : Nat × List Value) : List Value := uV x.1 :: x.2
def HeOk (k : Nat) (x : Nat × List Value) : Prop := x.2.length + 1 = k ∧ ∀ u ∈ x.2, u.oneCell' = true
theorem heL_length {k : Nat} {x : Nat × List Value} (h : HeOk k x) : (heL x).length = k := by show _ + 1 = _; exact h.1
theorem heL_one {k : Nat} {x : Nat × List Value} (h : HeOk k x) : (heL x).toArray.all (·.oneCell') = true := all_oneCell_toArray fun v hv => by
  rcases List.mem_cons.1 hv with rfl | hv
  · rfl
  · exact h.2 v hv
def VcInv (n base : Nat) (vs : List Nat) (w : World) (vb vi : Value) (wr : World) : Prop :=
  ∃ (k : Nat) (vq : Value), vq = vb ∧ k ≤ n ∧ vi = .int .i64 (k : Int) ∧ Below w.heap.size w wr ∧ wr.ownsRow base 35 1 vq k ((vs.take k).map uV)
set_option maxHeartbeats 1000000 in
set_option maxRecDepth 100000 in
theorem vlcoins_any (w : World) (v : Value) (l : List (Nat × List Value)) (h : RwAt 35 w v (l.map heL)) (hx : ∀ x ∈ l, HeOk 35 x) (hm : l.length ≤ 1000000) :
    Calls Tryz.prog 70 #[v] w fun e w' => ∃ v', e = .returned v' ∧ SrcU w' v' (l.map (·.1)) ∧ Below w.heap.size w w' := by
  obtain ⟨i0, hi, hz0, hz1, hz2⟩ := info_parts info_u64v
  obtain ⟨sp, cap, rfl⟩ := h.shape
  simp only [List.length_map] at h ⊢
  obtain ⟨n, hn⟩ : ∃ n, n = l.length := ⟨_, rfl⟩
  rw [← hn] at h hm ⊢
  obtain ⟨vs, hvs⟩ : ∃ vs, vs = l.map (·.1) := ⟨_, rfl⟩
  have VS := Lib.hid hvs
  have VN : Hid (vs.length = n) := by show _ = _; rw [hvs, List.length_map, hn]
  rw [← hvs]
  have N := Lib.hid hn
  have H := Lib.hid h
  have X := Lib.hid hx
  obtain ⟨base, hbase⟩ : ∃ base, base = w.heap.size := ⟨_, rfl⟩
  have BS := Lib.hid hbase
  clear hn h hx hvs
  go_enter Tryz.func70, Tryz.ntmps70
  go_wp2_with (at_make; refine wpList_make_own _ rfl _ _ 148 rfl w.heap.size 35 i0 (.int .u64 0) 1 Tryz.underlying148 hi hz0 hz1 _ _ _ n rfl rfl (by omega) (by rw [hz2]; omega) (by unfold maxLen; omega) (Nat.le_refl _) ?_; intro w2 hown hgrow; have HO := Lib.hid hown; have HB := Lib.hid (below_made hgrow); clear hown hgrow; go_frame)
  rw [← BS.out] at HO
  go_loopw [3, 11] (fun vb vi wr => VcInv n base vs w vb vi wr) (fun _ vi _ => n - (intOf vi).toNat)
  case atStart => exact ⟨0, _, rfl, Nat.zero_le _, rfl, HB.out, by simpa [BS.out] using HO.out⟩
  case round =>
    clear HO HB
    obtain ⟨k, vb, rfl, hk, rfl, B, HB⟩ := hrel
    have B := Lib.hid B
    have HB := Lib.hid HB
    by_cases hlt : k < n
    · obtain ⟨b, o, rfl, hg⟩ := (H.out.below B.out).get (by omega)
      obtain ⟨y, hy⟩ : ∃ y, l[k]? = some y := ⟨_, List.getElem?_eq_getElem (by rw [← N.out]; exact hlt)⟩
      have R := Lib.hid (hg k (heL y) (by rw [List.getElem?_map, hy]; rfl))
      have yo := X.out y (List.mem_of_getElem? hy)
      have LC : Hid ((heL y).length = 35) := heL_length yo
      have LC' : Hid ((heL y).toArray.size = 35) := by show _ = _; rw [List.size_toArray]; exact heL_length yo
      have ONE : Hid ((heL y).toArray.all (·.oneCell') = true) := heL_one yo
      have C0 : Hid (∀ (W : World) (g : Nat), W.heap[g]? = some (.cells (heL y).toArray 46 (0, 0)) → W.cell? ⟨g, 0, none⟩ = some (.int .u64 (y.1 : Int))) := fun W g hg => by rw [cell_of_row _ _ _ _ _ _ hg]; rfl
      have VT : Hid ((vs.take (k + 1)).map uV = (vs.take k).map uV ++ [.int .u64 (y.1 : Int)]) := by
        have e : vs[k]? = some y.1 := by rw [VS.out, List.getElem?_map, hy]; rfl
        show _ = _
        rw [List.take_succ_eq_append_getElem (List.getElem?_eq_some_iff.1 e).1, (List.getElem?_eq_some_iff.1 e).2, List.map_append]
        rfl
      have p0 : 0 ≤ (k : Int) := by omega
      have q0 : (k : Int) < (n : Int) := by omega
      obtain ⟨ct, hct⟩ : ∃ ct, ct = heL y := ⟨_, rfl⟩
      obtain ⟨yv, hyv⟩ : ∃ yv, yv = y.1 := ⟨_, rfl⟩
      rw [← hct] at R LC LC' ONE C0
      rw [← hyv] at C0 VT
      have zs : Hid ((uV 0 :: (List.replicate 32 (bV 0) ++ [.int .i64 0, .bool false])).toArray.size = ct.toArray.size) := by show _ = _; rw [LC'.out]; rfl
      clear hg hy yo hct hyv
      go_upto_region 5 with ((with_reducible show wpList _ _ _ _ _ _); first | (refine wpList_load_mid rfl 46 (.tmp 13) rfl b (o + k * 35) rfl ct _ R.out Tryz.underlying46 rfl (by rw [LC.out]; kernel_rfl) ?_; go_frame) | (refine wpList_store_row rfl 46 (.tmp 5) (.tmp 14) rfl wr.heap.size ct.toArray rfl rfl 46 _ (heap_alloc_new _ _) (by rw [LC'.out]; kernel_rfl) (by rw [LC'.out]; rfl) ONE.out ?_; go_frame))
      obtain ⟨_, f2, f3, f4⟩ := fill_setup (Below.refl wr.heap.size wr) (uV 0 :: (List.replicate 32 (bV 0) ++ [.int .i64 0, .bool false])).toArray ct.toArray 46
      generalize hqw5 : World.setRow _ _ _ = w5
      have ew5 : World.setRow (wr.alloc (.cells (uV 0 :: (List.replicate 32 (bV 0) ++ [.int .i64 0, .bool false])).toArray 46)) wr.heap.size ct.toArray = w5 := hqw5
      rw [ew5] at f2 f3 f4
      obtain ⟨g5, hg5⟩ : ∃ g5, g5 = wr.heap.size := ⟨_, rfl⟩
      rw [← hg5] at f2 ⊢
      have F5 := Lib.hid f2
      have Ng5 : Hid (wr.heap.size ≤ g5) := by show _ ≤ _; rw [hg5]; exact Nat.le_refl _
      have B5 := Lib.hid (B.out.trans (f4.mono B.out.size))
      have HB5 := Lib.hid (own_kept HB.out f4)
      clear f2 f3 f4 hqw5 ew5 hg5
      have cv := C0.out _ _ F5.out
      go_wp2_with (at_builtin; refine wpList_append_own _ rfl _ _ 148 rfl base 35 i0 (.int .u64 0) 1 8 Tryz.underlying148 hi hz0 hz1 hz2 rfl (by decide) vb k _ rfl (HB5.out.alloc _) ⟨w5.heap.size, 0, none⟩ 1 1 [.int .u64 (yv : Int)] rfl rfl (cell_one_new _ _ _) (fun u hu => by obtain rfl := List.mem_singleton.1 hu; rfl) (by unfold maxLen; omega) (by omega) (by have := B5.out.size; have := BS.out; simp; omega) ?_; intro v2 w3 ho3 hg3 _; have H3 := Lib.hid ho3; have B3 := Lib.hid (own_grown (B5.out.alloc B5.out.size _) (by rw [BS.out]; exact Nat.le_refl _) (by have := B5.out.size; simp; omega) (HB5.out.alloc _) hg3); clear ho3 hg3; go_frame)
      go_roundw
      case rel =>
        refine ⟨k + 1, v2, rfl, by omega, by go_num, B3.out, ?_⟩
        rw [VT.out]
        exact H3.out
      case measure => simp [intOf]; omega
    · have hkn : k = n := by omega
      have hge : ¬ (k : Int) < (n : Int) := by omega
      have H2 : Hid (SrcU wr vb vs) := by
        have h := HB.out
        rw [hkn, List.take_of_length_le (by rw [VN.out]; exact Nat.le_refl _)] at h
        exact srcU_own h
      clear hkn
      go_wp2_with fail
      go_ret
      exact ⟨vb, rfl, H2.out, B.out⟩
set_option maxHeartbeats 1000000 in
set_option maxRecDepth 100000 in
theorem vlouts_any (w : World) (v : Value) (l : List (Nat × List Value)) (h : RwAt 33 w v (l.map heL)) (hx : ∀ x ∈ l, HeOk 33 x) (hm : l.length ≤ 1000000) :
    Calls Tryz.prog 71 #[v] w fun e w' => ∃ v', e = .returned v' ∧ SrcU w' v' (l.map (·.1)) ∧ Below w.heap.size w w' := by
  obtain ⟨i0, hi, hz0, hz1, hz2⟩ := info_parts info_u64v
  obtain ⟨sp, cap, rfl⟩ := h.shape
  simp only [List.length_map] at h ⊢
  obtain ⟨n, hn⟩ : ∃ n, n = l.length := ⟨_, rfl⟩
  rw [← hn] at h hm ⊢
  obtain ⟨vs, hvs⟩ : ∃ vs, vs = l.map (·.1) := ⟨_, rfl⟩
  have VS := Lib.hid hvs
  have VN : Hid (vs.length = n) := by show _ = _; rw [hvs, List.length_map, hn]
  rw [← hvs]
  have N := Lib.hid hn
  have H := Lib.hid h
  have X := Lib.hid hx
  obtain ⟨base, hbase⟩ : ∃ base, base = w.heap.size := ⟨_, rfl⟩
  have BS := Lib.hid hbase
  clear hn h hx hvs
  go_enter Tryz.func71, Tryz.ntmps71
  go_wp2_with (at_make; refine wpList_make_own _ rfl _ _ 148 rfl w.heap.size 35 i0 (.int .u64 0) 1 Tryz.underlying148 hi hz0 hz1 _ _ _ n rfl rfl (by omega) (by rw [hz2]; omega) (by unfold maxLen; omega) (Nat.le_refl _) ?_; intro w2 hown hgrow; have HO := Lib.hid hown; have HB := Lib.hid (below_made hgrow); clear hown hgrow; go_frame)
  rw [← BS.out] at HO
  go_loopw [3, 11] (fun vb vi wr => VcInv n base vs w vb vi wr) (fun _ vi _ => n - (intOf vi).toNat)
  case atStart => exact ⟨0, _, rfl, Nat.zero_le _, rfl, HB.out, by simpa [BS.out] using HO.out⟩
  case round =>
    clear HO HB
    obtain ⟨k, vb, rfl, hk, rfl, B, HB⟩ := hrel
    have B := Lib.hid B
    have HB := Lib.hid HB
    by_cases hlt : k < n
    · obtain ⟨b, o, rfl, hg⟩ := (H.out.below B.out).get (by omega)
      obtain ⟨y, hy⟩ : ∃ y, l[k]? = some y := ⟨_, List.getElem?_eq_getElem (by rw [← N.out]; exact hlt)⟩
      have R := Lib.hid (hg k (heL y) (by rw [List.getElem?_map, hy]; rfl))
      have yo := X.out y (List.mem_of_getElem? hy)
      have LC : Hid ((heL y).length = 33) := heL_length yo
      have LC' : Hid ((heL y).toArray.size = 33) := by show _ = _; rw [List.size_toArray]; exact heL_length yo
      have ONE : Hid ((heL y).toArray.all (·.oneCell') = true) := heL_one yo
      have C0 : Hid (∀ (W : World) (g : Nat), W.heap[g]? = some (.cells (heL y).toArray 65 (0, 0)) → W.cell? ⟨g, 0, none⟩ = some (.int .u64 (y.1 : Int))) := fun W g hg => by rw [cell_of_row _ _ _ _ _ _ hg]; rfl
      have VT : Hid ((vs.take (k + 1)).map uV = (vs.take k).map uV ++ [.int .u64 (y.1 : Int)]) := by
        have e : vs[k]? = some y.1 := by rw [VS.out, List.getElem?_map, hy]; rfl
        show _ = _
        rw [List.take_succ_eq_append_getElem (List.getElem?_eq_some_iff.1 e).1, (List.getElem?_eq_some_iff.1 e).2, List.map_append]
        rfl
      have p0 : 0 ≤ (k : Int) := by omega
      have q0 : (k : Int) < (n : Int) := by omega
      obtain ⟨ct, hct⟩ : ∃ ct, ct = heL y := ⟨_, rfl⟩
      obtain ⟨yv, hyv⟩ : ∃ yv, yv = y.1 := ⟨_, rfl⟩
      rw [← hct] at R LC LC' ONE C0
      rw [← hyv] at C0 VT
      have zs : Hid ((uV 0 :: List.replicate 32 (bV 0)).toArray.size = ct.toArray.size) := by show _ = _; rw [LC'.out]; rfl
      clear hg hy yo hct hyv
      go_upto_region 5 with ((with_reducible show wpList _ _ _ _ _ _); first | (refine wpList_load_mid rfl 65 (.tmp 13) rfl b (o + k * 33) rfl ct _ R.out Tryz.underlying65 rfl (by rw [LC.out]; kernel_rfl) ?_; go_frame) | (refine wpList_store_row rfl 65 (.tmp 5) (.tmp 14) rfl wr.heap.size ct.toArray rfl rfl 65 _ (heap_alloc_new _ _) (by rw [LC'.out]; kernel_rfl) (by rw [LC'.out]; rfl) ONE.out ?_; go_frame))
      obtain ⟨_, f2, f3, f4⟩ := fill_setup (Below.refl wr.heap.size wr) (uV 0 :: List.replicate 32 (bV 0)).toArray ct.toArray 65
      generalize hqw5 : World.setRow _ _ _ = w5
      have ew5 : World.setRow (wr.alloc (.cells (uV 0 :: List.replicate 32 (bV 0)).toArray 65)) wr.heap.size ct.toArray = w5 := hqw5
      rw [ew5] at f2 f3 f4
      obtain ⟨g5, hg5⟩ : ∃ g5, g5 = wr.heap.size := ⟨_, rfl⟩
      rw [← hg5] at f2 ⊢
      have F5 := Lib.hid f2
      have Ng5 : Hid (wr.heap.size ≤ g5) := by show _ ≤ _; rw [hg5]; exact Nat.le_refl _
      have B5 := Lib.hid (B.out.trans (f4.mono B.out.size))
      have HB5 := Lib.hid (own_kept HB.out f4)
      clear f2 f3 f4 hqw5 ew5 hg5
      have cv := C0.out _ _ F5.out
      go_wp2_with (at_builtin; refine wpList_append_own _ rfl _ _ 148 rfl base 35 i0 (.int .u64 0) 1 8 Tryz.underlying148 hi hz0 hz1 hz2 rfl (by decide) vb k _ rfl (HB5.out.alloc _) ⟨w5.heap.size, 0, none⟩ 1 1 [.int .u64 (yv : Int)] rfl rfl (cell_one_new _ _ _) (fun u hu => by obtain rfl := List.mem_singleton.1 hu; rfl) (by unfold maxLen; omega) (by omega) (by have := B5.out.size; have := BS.out; simp; omega) ?_; intro v2 w3 ho3 hg3 _; have H3 := Lib.hid ho3; have B3 := Lib.hid (own_grown (B5.out.alloc B5.out.size _) (by rw [BS.out]; exact Nat.le_refl _) (by have := B5.out.size; simp; omega) (HB5.out.alloc _) hg3); clear ho3 hg3; go_frame)
      go_roundw
      case rel =>
        refine ⟨k + 1, v2, rfl, by omega, by go_num, B3.out, ?_⟩
        rw [VT.out]
        exact H3.out
      case measure => simp [intOf]; omega
    · have hkn : k = n := by omega
      have hge : ¬ (k : Int) < (n : Int) := by omega
      have H2 : Hid (SrcU wr vb vs) := by
        have h := HB.out
        rw [hkn, List.take_of_length_le (by rw [VN.out]; exact Nat.le_refl _)] at h
        exact srcU_own h
      clear hkn
      go_wp2_with fail
      go_ret
      exact ⟨vb, rfl, H2.out, B.out⟩
end Go.Proofs.YtckkcpplanfmhaaGreatDoor.Sha
