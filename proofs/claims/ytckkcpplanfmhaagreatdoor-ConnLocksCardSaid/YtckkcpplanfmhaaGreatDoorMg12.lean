/-
  Texts of this proof joined into one file: RefFee, RefMet, RefFinal. What each holds, and under which conditions, its own first sentence tells.
-/
import Derived.Test.YtckkcpplanfmhaaGreatDoorMg08
import Derived.Test.YtckkcpplanfmhaaGreatDoorMg04
import Derived.Test.YtckkcpplanfmhaaGreatDoorMg11
import Derived.Test.YtckkcpplanfmhaaGreatDoorMg05
import Derived.Test.YtckkcpplanfmhaaGreatDoorMg03
import Derived.Test.YtckkcpplanfmhaaGreatDoorMg06
/-
  The statements' own: what a transaction leaves over of its coins, or its first fault. Nothing that was there turns. Conditions: the transaction and the coins lie in memory, at most a million inputs and outputs; amounts of 64 bits.
-/
namespace Go.Proofs.YtckkcpplanfmhaaGreatDoor.Sha
open Go Go.RowKit
def opB (t : TTx) (ms : List TMn) : List Bool := (t.ins.zip ms).map fun e => opensL e.1.key e.2.lock
def feeV (va vb : List Nat) : Nat × List Value := if (sumIs va && sumIs vb) = false then (0, fC 105) else if sumL va < sumL vb then (0, fC 117) else (sumL va - sumL vb, fC 0)
def feeL (t : TTx) (ms : List TMn) : Nat × List Value :=
  if ms.length ≠ t.ins.length then (0, fC 102) else
  match (opB t ms).findIdx? (fun b => !b) with
  | some i => (0, pC 114 (i : Int))
  | none => feeV (ms.map (·.val)) (t.outs.map (·.val))
theorem opB_get {t : TTx} {ms : List TMn} {i : Nat} {x : TIn} {m : TMn} (h1 : t.ins[i]? = some x) (h2 : ms[i]? = some m) : (opB t ms)[i]? = some (opensL x.key m.lock) := by
  unfold opB
  have e : (t.ins.zip ms)[i]? = some (x, m) := by
    rw [List.getElem?_zip_eq_some]
    exact ⟨h1, h2⟩
  rw [List.getElem?_map, e]
  rfl
theorem shut_at {B : List Bool} {i : Nat} (h : ∀ j, j < i → B[j]? = some true) (hi : B[i]? = some false) : B.findIdx? (fun b => !b) = some i := by
  have hl := (List.getElem?_eq_some_iff.1 hi).1
  rw [List.findIdx?_eq_some_iff_getElem]
  refine ⟨hl, by rw [(List.getElem?_eq_some_iff.1 hi).2]; rfl, fun j hj => ?_⟩
  rw [(List.getElem?_eq_some_iff.1 (h j hj)).2]
  decide
theorem shut_no {B : List Bool} (h : ∀ j, j < B.length → B[j]? = some true) : B.findIdx? (fun b => !b) = none := by
  rw [List.findIdx?_eq_none_iff]
  intro b hb
  obtain ⟨j, hj, rfl⟩ := List.mem_iff_getElem.1 hb
  rw [(List.getElem?_eq_some_iff.1 (h j hj)).2]
  rfl
theorem flat_u64 (l : List Nat) : (l.map fun x => [uV x]).flatten = l.map uV := by
  induction l with
  | nil => rfl
  | cons x l ih => rw [List.map_cons, List.flatten_cons, ih]; rfl
theorem results_tc {P : Program} {fn : Func} {p u : Tmp} {ty : TypeId} (h : fn.results = #[.tmp u, .cell p ty]) (tmps : Array Value) (w : World) (g : Nat) (t : TypeId) (cs : Array Value) (fr : Nat × Nat) (d : TypeDesc)
    (hx : tmps.getD p undef = .pointer (some ⟨g, 0, none⟩)) (hg : w.heap[g]? = some (.cells cs t fr)) (hu : P.underlying ty = some d) (hd : (match d with | .struct _ | .array _ _ => true | _ => false) = true) (hi : (P.info? ty).map (·.size) = some cs.size) :
    (results fn tmps).run P w = .ok (.tuple #[tmps.getD u undef, .agg cs]) w := by
  have hp' : tmps[p]?.getD undef = .pointer (some ⟨g, 0, none⟩) := by simpa using hx
  simp [results, h, hp', asAddr, Result.andThen, run_loadVar_row (P := P) w g t ty cs fr d hg hu hd hi]
def FeI (B : List Bool) (vs : List Nat) (n base : Nat) (w : World) (vt vi : Value) (wr : World) : Prop :=
  ∃ (k : Nat) (vq : Value), vq = vt ∧ vi = .int .i64 (k : Int) ∧ k ≤ n ∧ (∀ j, j < k → B[j]? = some true) ∧ RwOwn 1 35 base wr vq ((vs.take k).map fun x => [uV x]) ∧ Below w.heap.size w wr
set_option maxHeartbeats 4000000 in
set_option maxRecDepth 100000 in
theorem rfee_all (w : World) (v vm : Value) (t : TTx) (ms : List TMn) (h : TxAt w v t) (hh : RwAt 35 w vm (ms.map mnL)) (hok : ∀ m ∈ ms, MnOk m) (hov : ∀ y ∈ t.outs, y.val ≤ 18446744073709551615) (hm : t.ins.length ≤ 1000000) (hmo : t.outs.length ≤ 1000000) :
    Calls Tryz.prog 41 #[v, vm] w fun e w' => e = .returned (.tuple #[.int .u64 ((feeL t ms).1 : Int), .agg (feeL t ms).2.toArray]) ∧ Below w.heap.size w w' := by
  obtain ⟨i0, hi, hz0, hz1, hz2⟩ := info_parts info_u64v
  have h0 := h
  obtain ⟨_, iv, ov, rfl, hin, hou⟩ := h
  have TONE : Hid ((txL t iv ov).toArray.all (·.oneCell') = true) := tx_one hin hou
  have LT : Hid ((txL t iv ov).toArray.size = 4) := rfl
  have CO : Hid (∀ (W : World) (g : Nat), W.heap[g]? = some (.cells (txL t iv ov).toArray 27 (0, 0)) → W.cell? ⟨g, 1, none⟩ = some iv) := fun W g hg => (tx_cells hg).2.1
  have VL : Hid (∀ W, Below w.heap.size w W → Calls Tryz.prog 78 #[.agg (txL t iv ov).toArray] W fun e w' => ∃ v', e = .returned v' ∧ SrcU w' v' (t.outs.map (·.val)) ∧ Below W.heap.size W w') := fun W hW => vals_any t _ W (h0.below hW) hmo
  obtain ⟨si, ci, rfl, _, hgi⟩ := hin
  obtain ⟨sm, cm, rfl⟩ := hh.shape
  simp only [List.length_map] at hh ⊢
  obtain ⟨n, hn⟩ : ∃ n, n = t.ins.length := ⟨_, rfl⟩
  rw [← hn] at hm CO TONE LT VL hgi ⊢
  have N := Lib.hid hn
  have HI := Lib.hid hgi
  have MO := Lib.hid hok
  obtain ⟨nm, hnm⟩ : ∃ nm, nm = ms.length := ⟨_, rfl⟩
  rw [← hnm] at hh ⊢
  have NM := Lib.hid hnm
  have HH := Lib.hid hh
  obtain ⟨B0, hB0⟩ : ∃ B, B = opB t ms := ⟨_, rfl⟩
  have BG : Hid (∀ (i : Nat) (x : TIn) (m : TMn), t.ins[i]? = some x → ms[i]? = some m → B0[i]? = some (opensL x.key m.lock)) := fun i x m h1 h2 => by rw [hB0]; exact opB_get h1 h2
  have BL : Hid (nm = n → B0.length = n) := fun e => by rw [hB0]; unfold opB; simp; omega
  obtain ⟨va, hva⟩ : ∃ va, va = ms.map (·.val) := ⟨_, rfl⟩
  obtain ⟨vo, hvo⟩ : ∃ vo, vo = t.outs.map (·.val) := ⟨_, rfl⟩
  rw [← hvo] at VL
  have VAE := Lib.hid hva
  have VOL : Hid (vo.length ≤ 1000000) := by show _ ≤ _; rw [hvo, List.length_map]; exact hmo
  have V64 : Hid (∀ j, va.getD j 0 ≤ 18446744073709551615) := fun j => by
    rw [hva, List.getD_eq_getElem?_getD, List.getElem?_map]
    cases hj : ms[j]? with
    | none => simp
    | some m => exact (hok m (List.mem_of_getElem? hj)).2.1
  have W64 : Hid (∀ j, vo.getD j 0 ≤ 18446744073709551615) := fun j => by
    rw [hvo, List.getD_eq_getElem?_getD, List.getElem?_map]
    cases hj : t.outs[j]? with
    | none => simp
    | some m => exact hov m (List.mem_of_getElem? hj)
  have FE : Hid (feeL t ms = if nm ≠ n then (0, fC 102) else match B0.findIdx? (fun b => !b) with | some i => (0, pC 114 (i : Int)) | none => feeV va vo) := by rw [hnm, hn, hB0, hva, hvo]; rfl
  obtain ⟨R, hR⟩ : ∃ R, R = feeL t ms := ⟨_, rfl⟩
  rw [← hR] at FE ⊢
  obtain ⟨ct, hct⟩ : ∃ ct, ct = txL t (.slice si n ci) ov := ⟨_, rfl⟩
  rw [← hct] at TONE LT CO VL ⊢
  clear hn hnm hgi hh hok hB0 hva hvo hR hct hou h0 hmo hov
  go_enter Tryz.func41, Tryz.ntmps41
  go_upto_region 1 with fail
  have f2 := row_below (heap_alloc_new w (.cells ct.toArray 27 (0, 0))) ((Below.refl _ _).alloc (Nat.le_refl _) (.cells (fC 0).toArray 55 (0, 0)))
  have f5 := heap_alloc_new (w.alloc (.cells ct.toArray 27 (0, 0))) (.cells (fC 0).toArray 55 (0, 0))
  have b1 := ((Below.refl w.heap.size w).alloc (Nat.le_refl _) (.cells ct.toArray 27 (0, 0))).alloc (by simp) (.cells (fC 0).toArray 55 (0, 0))
  rw [World.size_alloc] at f5
  generalize hw1 : World.alloc _ _ = w1
  have e1 : (w.alloc (.cells ct.toArray 27 (0, 0))).alloc (.cells (fC 0).toArray 55 (0, 0)) = w1 := hw1
  rw [e1] at f2 f5 b1
  obtain ⟨g2, hg2⟩ : ∃ g2, g2 = w.heap.size := ⟨_, rfl⟩
  obtain ⟨g5, hg5⟩ : ∃ g5, g5 = w.heap.size + 1 := ⟨_, rfl⟩
  have G5 : Hid (w.heap.size ≤ g5) := by show _ ≤ _; omega
  rw [← hg5] at f5
  rw [← hg2] at f2
  rw [← hg5, ← hg2]
  have F2 := Lib.hid f2
  have F5 := Lib.hid f5
  have B1 := Lib.hid b1
  have c1 := CO.out _ _ F2.out
  clear f2 f5 b1 hw1 e1 hg2 hg5
  by_cases hne : nm = n
  · have hne2 := hne.symm
    subst hne2
    have q1 : ((n : Int) != (n : Int)) = false := by simp
    have FE2 : Hid (R = match B0.findIdx? (fun b => !b) with | some i => (0, pC 114 (i : Int)) | none => feeV va vo) := by show _ = _; rw [FE.out, if_neg (by simp)]
    have BLN : Hid (B0.length = n) := BL.out rfl
    clear FE
    obtain ⟨base, hbase⟩ : ∃ base, base = w1.heap.size := ⟨_, rfl⟩
    have BS := Lib.hid hbase
    go_wp2_with fail
    clear c1
    go_loopw [6, 7] (fun vt vi wr => FeI B0 va n base w1 vt vi wr) (fun _ vi _ => n - (intOf vi).toNat)
    case atStart => exact ⟨0, _, rfl, rfl, Nat.zero_le _, fun j hj => absurd hj (by omega), RwOwn.nil _ _ _ _, Below.refl _ _⟩
    case round =>
      obtain ⟨k, vb, rfl, rfl, hk, hopn, hrow, hbel⟩ := hrel
      have HB := Lib.hid hrow
      have OA := Lib.hid hopn
      have B := Lib.hid hbel
      have BB := Lib.hid (B1.out.trans (hbel.mono B1.out.size))
      clear hopn hrow hbel
      by_cases hlt : k < n
      · obtain ⟨x, hx⟩ : ∃ x, t.ins[k]? = some x := ⟨_, List.getElem?_eq_getElem (by rw [← N.out]; exact hlt)⟩
        obtain ⟨m, hmk⟩ : ∃ m, ms[k]? = some m := ⟨_, List.getElem?_eq_getElem (by rw [← NM.out]; exact hlt)⟩
        obtain ⟨bi, oi, rfl, hg⟩ := HI.out (by omega)
        obtain ⟨ox, kv, hkv, hr⟩ := (hg k x hx).below BB.out
        obtain ⟨hsk, sk, ck, rfl⟩ := hkv
        have CK := Lib.hid (in_key ox.1 hr)
        obtain ⟨bm, om, rfl, hgm⟩ := (HH.out.below BB.out).get (by omega)
        have rm := hgm k (mnL m) (by rw [List.getElem?_map, hmk]; rfl)
        have om1 := MO.out m (List.mem_of_getElem? hmk)
        have CV := Lib.hid (mn_val rm)
        have RL := Lib.hid (mn_lock rm)
        have LL : Hid ((m.lock.map bV).length = 32) := by show _ = _; rw [List.length_map]; exact om1.1
        have C1 := Lib.hid (CO.out _ _ (row_below F2.out B.out))
        have BK := Lib.hid (BG.out k x m hx hmk)
        obtain ⟨ob, hob⟩ : ∃ ob, ob = opensL x.key m.lock := ⟨_, rfl⟩
        rw [← hob] at BK
        have OP : Hid (∀ W, Below wr.heap.size wr W → Calls Tryz.prog 76 #[.slice sk x.key.length ck, .agg (m.lock.map bV).toArray] W fun e w' => e = .returned (.bool ob) ∧ Below W.heap.size W w') := fun W hW => ropens_all x.key m.lock sk _ ck W (hsk.below hW) om1.1 ob hob
        obtain ⟨mv, hmv⟩ : ∃ mv, mv = m.val := ⟨_, rfl⟩
        have VT : Hid (va.take (k + 1) = va.take k ++ [mv]) := by
          have e : va[k]? = some mv := by rw [VAE.out, List.getElem?_map, hmk, hmv]; rfl
          show _ = _
          rw [List.take_succ_eq_append_getElem (List.getElem?_eq_some_iff.1 e).1, (List.getElem?_eq_some_iff.1 e).2]
        rw [← hmv] at CV
        obtain ⟨nk, hnk⟩ : ∃ nk, nk = x.key.length := ⟨_, rfl⟩
        rw [← hnk] at CK OP
        obtain ⟨lk, hlk⟩ : ∃ lk, lk = m.lock.map bV := ⟨_, rfl⟩
        rw [← hlk] at RL LL OP
        have DO : Hid (((va.take k).map fun x => [uV x]).length ≤ 1000000) := by show _ ≤ _; rw [List.length_map, List.length_take]; omega
        have i0' : 0 ≤ (k : Int) := by omega
        have i1' : (k : Int) < (n : Int) := by omega
        clear hx hmk hg hr hsk hgm rm om1 hob hmv hnk hlk ox
        go_wp2_with fail
        cases ob with
        | false =>
          have RV : Hid (R = (0, pC 114 (k : Int))) := by show _ = _; rw [FE2.out, shut_at OA.out BK.out]
          refine wp_region_held_drew (S := (fun w' => Below wr.heap.size wr w')) (by kernel_rfl) (Below.drew (Below.refl _ _)) (fun hHeld => ?_)
          generalize hwd : wr.drew = wd at  hHeld ⊢
          clear hwd
          refine held_take (i := 0) (v := (.pointer (some ⟨g2, 1, none⟩))) rfl (by kernel_rfl) (by kernel_rfl) (by kernel_rfl) (fun _ _ _ h => h) (Or.inl ⟨by rfl, fun w' _ => by kernel_rfl⟩) hHeld ?_
          go_frame
          refine held_take (i := 1) (v := (.slice (some ⟨bi, oi, none⟩) n ci)) rfl (by kernel_rfl) (by kernel_rfl) (by kernel_rfl) (fun _ _ _ h => h) (yieldsIf_load_one (by rfl) 24 (.tmp 25) rfl g2 (1) rfl _ _ (fun w' hw' => cell_below C1.out hw') Tryz.underlying24 rfl) hHeld ?_
          go_frame
          refine held_take (i := 2) (v := (.int .i64 (k : Int))) rfl (by kernel_rfl) (by kernel_rfl) (by kernel_rfl) (fun _ _ _ h => h) (Or.inl ⟨by rfl, fun w' _ => by kernel_rfl⟩) hHeld ?_
          go_frame
          refine held_take (i := 3) (v := (.pointer (some ⟨bi, oi + k * 35, none⟩))) rfl (by kernel_rfl) (by kernel_rfl) (by kernel_rfl) (fun _ _ _ h => h) (Or.inl ⟨by rfl, fun w' _ => by go_simp⟩) hHeld ?_
          go_frame
          refine held_take (i := 4) (v := (.pointer (some ⟨bi, oi + k * 35 + 33, none⟩))) rfl (by kernel_rfl) (by kernel_rfl) (by kernel_rfl) (fun _ _ _ h => h) (Or.inl ⟨by rfl, fun w' _ => by kernel_rfl⟩) hHeld ?_
          go_frame
          refine held_take (i := 5) (v := (.slice sk nk ck)) rfl (by kernel_rfl) (by kernel_rfl) (by kernel_rfl) (fun _ _ _ h => h) (yieldsIf_load_one (by rfl) 51 (.tmp 29) rfl bi (oi + k * 35 + 33) rfl _ _ (fun w' hw' => cell_below CK.out hw') Tryz.underlying51 rfl) hHeld ?_
          go_frame
          refine held_take (i := 6) (v := (.slice (some ⟨bm, om, none⟩) n cm)) rfl (by kernel_rfl) (by kernel_rfl) (by kernel_rfl) (fun _ _ _ h => h) (Or.inl ⟨by rfl, fun w' _ => by kernel_rfl⟩) hHeld ?_
          go_frame
          refine held_take (i := 7) (v := (.int .i64 (k : Int))) rfl (by kernel_rfl) (by kernel_rfl) (by kernel_rfl) (fun _ _ _ h => h) (Or.inl ⟨by rfl, fun w' _ => by kernel_rfl⟩) hHeld ?_
          go_frame
          refine held_take (i := 8) (v := (.pointer (some ⟨bm, om + k * 35, none⟩))) rfl (by kernel_rfl) (by kernel_rfl) (by kernel_rfl) (fun _ _ _ h => h) (Or.inl ⟨by rfl, fun w' _ => by go_simp⟩) hHeld ?_
          go_frame
          refine held_take (i := 9) (v := (.pointer (some ⟨bm, om + k * 35 + 1, none⟩))) rfl (by kernel_rfl) (by kernel_rfl) (by kernel_rfl) (fun _ _ _ h => h) (Or.inl ⟨by rfl, fun w' _ => by kernel_rfl⟩) hHeld ?_
          go_frame
          refine held_take (i := 10) (v := (.agg lk.toArray)) rfl (by kernel_rfl) (by kernel_rfl) (by kernel_rfl) (fun _ _ _ h => h) (Sha.yieldsIf_load_mid (by rfl) 44 (.tmp 34) rfl bm (om + k * 35 + 1) rfl lk _ (fun w' hw' => range_below RL.out hw') Tryz.underlying44 rfl (by rw [LL.out]; kernel_rfl)) hHeld ?_
          go_frame
          refine wpAnyH_ready (rs := [11]) (by kernel_rfl) (by simp) (held_cons rfl (fun K hK => ?_) AllReadyH.nil)
          go_simp
          refine (OP.out _ hHeld).mono ?_
          rintro e v1 ⟨rfl, bb⟩
          have hv1 := hHeld.trans (bb.mono hHeld.size)
          clear bb hHeld
          go_wp2_with fail
          refine hK.out _ _ hv1 (fun hHeld => ?_)
          clear hK K hv1
          refine held_take (i := 12) (v := (.bool true)) rfl (by kernel_rfl) (by kernel_rfl) (by kernel_rfl) (fun _ _ _ h => h) (Or.inl ⟨by rfl, fun w' _ => by go_simp⟩) hHeld ?_
          go_frame
          refine wpAnyH_done (by kernel_rfl) ?_ _
          obtain ⟨w7, h7⟩ : ∃ w7, w7 = v1 := ⟨_, rfl⟩
          rw [← h7] at hHeld ⊢
          clear h7
          have BR := Lib.hid (B.out.trans (hHeld.mono B.out.size))
          have BA := Lib.hid (BB.out.trans (hHeld.mono BB.out.size))
          have f5r := row_below F5.out BR.out
          go_wp2_with fail
          refine (placed_any 114 (k : Int) (by decide) w7).mono ?_
          rintro e w8 ⟨rfl, bb⟩
          have F5R := Lib.hid (row_below f5r bb)
          have BZ := Lib.hid (BA.out.trans (bb.mono BA.out.size))
          clear f5r bb
          go_wp2_with ((with_reducible show wpList _ _ _ _ _ _); (refine wpList_store_row rfl 55 (.tmp 5) (.tmp 39) rfl g5 (pC 114 (k : Int)).toArray rfl rfl 55 _ F5R.out (by kernel_rfl) rfl (placed_all _ _) ?_; go_frame))
          refine bodyPost_ret (results_tc rfl _ _ g5 55 (pC 114 (k : Int)).toArray (0, 0) _ rfl (setRow_heap _ _ _ _ _ _ F5R.out) Tryz.underlying55 rfl (by kernel_rfl)) rfl ?_
          exact ⟨by rw [RV.out]; rfl, below_setRow BZ.out (by have := G5.out; omega) _⟩
        | true =>
          have ON : Hid (∀ j, j < k + 1 → B0[j]? = some true) := fun j hj => by
            by_cases e : j = k
            · rw [e]; exact BK.out
            · exact OA.out j (by omega)
          refine wp_region_held_drew (S := (fun w' => Below wr.heap.size wr w')) (by kernel_rfl) (Below.drew (Below.refl _ _)) (fun hHeld => ?_)
          generalize hwd : wr.drew = wd at  hHeld ⊢
          clear hwd
          refine held_take (i := 0) (v := (.pointer (some ⟨g2, 1, none⟩))) rfl (by kernel_rfl) (by kernel_rfl) (by kernel_rfl) (fun _ _ _ h => h) (Or.inl ⟨by rfl, fun w' _ => by kernel_rfl⟩) hHeld ?_
          go_frame
          refine held_take (i := 1) (v := (.slice (some ⟨bi, oi, none⟩) n ci)) rfl (by kernel_rfl) (by kernel_rfl) (by kernel_rfl) (fun _ _ _ h => h) (yieldsIf_load_one (by rfl) 24 (.tmp 25) rfl g2 (1) rfl _ _ (fun w' hw' => cell_below C1.out hw') Tryz.underlying24 rfl) hHeld ?_
          go_frame
          refine held_take (i := 2) (v := (.int .i64 (k : Int))) rfl (by kernel_rfl) (by kernel_rfl) (by kernel_rfl) (fun _ _ _ h => h) (Or.inl ⟨by rfl, fun w' _ => by kernel_rfl⟩) hHeld ?_
          go_frame
          refine held_take (i := 3) (v := (.pointer (some ⟨bi, oi + k * 35, none⟩))) rfl (by kernel_rfl) (by kernel_rfl) (by kernel_rfl) (fun _ _ _ h => h) (Or.inl ⟨by rfl, fun w' _ => by go_simp⟩) hHeld ?_
          go_frame
          refine held_take (i := 4) (v := (.pointer (some ⟨bi, oi + k * 35 + 33, none⟩))) rfl (by kernel_rfl) (by kernel_rfl) (by kernel_rfl) (fun _ _ _ h => h) (Or.inl ⟨by rfl, fun w' _ => by kernel_rfl⟩) hHeld ?_
          go_frame
          refine held_take (i := 5) (v := (.slice sk nk ck)) rfl (by kernel_rfl) (by kernel_rfl) (by kernel_rfl) (fun _ _ _ h => h) (yieldsIf_load_one (by rfl) 51 (.tmp 29) rfl bi (oi + k * 35 + 33) rfl _ _ (fun w' hw' => cell_below CK.out hw') Tryz.underlying51 rfl) hHeld ?_
          go_frame
          refine held_take (i := 6) (v := (.slice (some ⟨bm, om, none⟩) n cm)) rfl (by kernel_rfl) (by kernel_rfl) (by kernel_rfl) (fun _ _ _ h => h) (Or.inl ⟨by rfl, fun w' _ => by kernel_rfl⟩) hHeld ?_
          go_frame
          refine held_take (i := 7) (v := (.int .i64 (k : Int))) rfl (by kernel_rfl) (by kernel_rfl) (by kernel_rfl) (fun _ _ _ h => h) (Or.inl ⟨by rfl, fun w' _ => by kernel_rfl⟩) hHeld ?_
          go_frame
          refine held_take (i := 8) (v := (.pointer (some ⟨bm, om + k * 35, none⟩))) rfl (by kernel_rfl) (by kernel_rfl) (by kernel_rfl) (fun _ _ _ h => h) (Or.inl ⟨by rfl, fun w' _ => by go_simp⟩) hHeld ?_
          go_frame
          refine held_take (i := 9) (v := (.pointer (some ⟨bm, om + k * 35 + 1, none⟩))) rfl (by kernel_rfl) (by kernel_rfl) (by kernel_rfl) (fun _ _ _ h => h) (Or.inl ⟨by rfl, fun w' _ => by kernel_rfl⟩) hHeld ?_
          go_frame
          refine held_take (i := 10) (v := (.agg lk.toArray)) rfl (by kernel_rfl) (by kernel_rfl) (by kernel_rfl) (fun _ _ _ h => h) (Sha.yieldsIf_load_mid (by rfl) 44 (.tmp 34) rfl bm (om + k * 35 + 1) rfl lk _ (fun w' hw' => range_below RL.out hw') Tryz.underlying44 rfl (by rw [LL.out]; kernel_rfl)) hHeld ?_
          go_frame
          refine wpAnyH_ready (rs := [11]) (by kernel_rfl) (by simp) (held_cons rfl (fun K hK => ?_) AllReadyH.nil)
          go_simp
          refine (OP.out _ hHeld).mono ?_
          rintro e v1 ⟨rfl, bb⟩
          have hv1 := hHeld.trans (bb.mono hHeld.size)
          clear bb hHeld
          go_wp2_with fail
          refine hK.out _ _ hv1 (fun hHeld => ?_)
          clear hK K hv1
          refine held_take (i := 12) (v := (.bool false)) rfl (by kernel_rfl) (by kernel_rfl) (by kernel_rfl) (fun _ _ _ h => h) (Or.inl ⟨by rfl, fun w' _ => by go_simp⟩) hHeld ?_
          go_frame
          refine wpAnyH_done (by kernel_rfl) ?_ _
          obtain ⟨w7, h7⟩ : ∃ w7, w7 = v1 := ⟨_, rfl⟩
          rw [← h7] at hHeld ⊢
          clear h7
          have BR := Lib.hid (B.out.trans (hHeld.mono B.out.size))
          have BA := Lib.hid (BB.out.trans (hHeld.mono BB.out.size))
          have cv := cell_below CV.out hHeld
          have HO := Lib.hid (HB.out.keep hHeld)
          have HS := Lib.hid (BR.out.size)
          clear hHeld
          go_wp2_with (at_builtin; refine wpList_append_own_at _ rfl _ _ 148 rfl base 35 i0 (.int .u64 0) 1 8 Tryz.underlying148 hi hz0 hz1 hz2 rfl (by decide) vb _ ((va.take k).map fun x => [uV x]).flatten rfl (HO.out.1.alloc _) ⟨w7.heap.size, 0, none⟩ 1 1 [.int .u64 (mv : Int)] rfl rfl (cell_one_new _ _ _) (fun u hu => by obtain rfl := List.mem_singleton.1 hu; rfl) (by have := DO.out; unfold maxLen; omega) (by have := DO.out; omega) (by have := BS.out; have := HS.out; simp; omega) ?_; intro v3 w3 q1 q2 _ q4; have H3 : Hid (RwOwn 1 35 base w3 v3 (((va.take k).map fun x => [uV x]) ++ [[uV mv]])) := RwOwn.push HO.out.2 rfl q1; have B3 := Lib.hid (own_grown (BR.out.alloc BR.out.size _) (by rw [BS.out]; exact Nat.le_refl _) (by have := HS.out; simp; omega) (HO.out.1.alloc _) q2); clear q1 q2 q4; go_frame)
          go_roundw
          case rel =>
            refine ⟨k + 1, v3, rfl, by go_num, by omega, ON.out, ?_, B3.out⟩
            rw [VT.out, List.map_append]
            exact H3.out
          case measure => simp [intOf] <;> omega
      · have hkn : k = n := by omega
        have bln : B0.length = n := BLN.out
        have RV : Hid (R = feeV va vo) := by
          show _ = _
          rw [FE2.out, shut_no (fun j (hj : j < B0.length) => OA.out j (by rw [hkn, ← bln]; exact hj))]
        have VAL : Hid (va.length = n) := by show _ = _; rw [VAE.out, List.length_map]; exact NM.out.symm
        have SU : Hid (SrcU wr vb va) := by
          have h := HB.out
          rw [hkn, List.take_of_length_le (by rw [VAL.out]; exact Nat.le_refl _)] at h
          have h1 := h.1
          rw [flat_u64, List.length_map] at h1
          exact srcU_own h1
        have i1' : ¬ (k : Int) < (n : Int) := by omega
        have F2R := Lib.hid (row_below F2.out B.out)
        have F5R := Lib.hid (row_below F5.out B.out)
        have SM := sum_r va vb wr SU.out (by have := VAL.out; omega) V64.out
        clear hkn hlt OA HB
        go_wp2_with fail
        refine SM.mono ?_
        rintro e w8 ⟨rfl, rfl⟩
        clear SM
        have SV : Hid (sumV va = .tuple #[.int .u64 (sumL va : Nat), .bool (sumIs va)]) := rfl
        have SW : Hid (sumV vo = .tuple #[.int .u64 (sumL vo : Nat), .bool (sumIs vo)]) := rfl
        have FV : Hid (feeV va vo = if (sumIs va && sumIs vo) = false then (0, fC 105) else if sumL va < sumL vo then (0, fC 117) else (sumL va - sumL vo, fC 0)) := rfl
        have SB : Hid (sumL va ≤ 2100000000000000) := by show _ ≤ _; unfold sumL; split <;> simp_all [most_eq]
        obtain ⟨a, ha⟩ : ∃ a, a = sumL va := ⟨_, rfl⟩
        obtain ⟨b, hb⟩ : ∃ b, b = sumL vo := ⟨_, rfl⟩
        obtain ⟨qa, hqa⟩ : ∃ q, q = sumIs va := ⟨_, rfl⟩
        obtain ⟨qb, hqb⟩ : ∃ q, q = sumIs vo := ⟨_, rfl⟩
        rw [← ha, ← hqa] at SV FV
        rw [← hb, ← hqb] at SW FV
        rw [← ha] at SB
        rw [SV.out]
        clear ha hb hqa hqb
        go_wp2_with ((with_reducible show wpList _ _ _ _ _ _); (refine wpList_load_row rfl 27 (.tmp 2) rfl g2 rfl 27 ct.toArray (0, 0) _ F2R.out Tryz.underlying27 rfl (by rw [LT.out]; kernel_rfl) ?_; go_frame))
        refine (VL.out wr BB.out).mono ?_
        rintro e w9 ⟨vv, rfl, sv, bb⟩
        have SS := sum_r vo vv w9 sv (by have := VOL.out; omega) W64.out
        have F5R := Lib.hid (row_below F5R.out bb)
        have BZ := Lib.hid (BB.out.trans (bb.mono BB.out.size))
        clear bb sv
        go_wp2_with fail
        refine SS.mono ?_
        rintro e w10 ⟨rfl, rfl⟩
        clear SS
        rw [SW.out]
        cases qa with
        | false =>
          have RW : Hid (R = (0, fC 105)) := by show _ = _; rw [RV.out, FV.out]; rfl
          go_wp2_with fail
          refine (bare_any 105 w9).mono ?_
          rintro e w11 ⟨rfl, bb⟩
          have F5Q := Lib.hid (row_below F5R.out bb)
          have BY := Lib.hid (BZ.out.trans (bb.mono BZ.out.size))
          clear bb
          go_wp2_with ((with_reducible show wpList _ _ _ _ _ _); (refine wpList_store_row rfl 55 (.tmp 5) (.tmp 65) rfl g5 (fC 105).toArray rfl rfl 55 _ F5Q.out (by kernel_rfl) rfl (fault_all _) ?_; go_frame))
          refine bodyPost_ret (results_tc rfl _ _ g5 55 (fC 105).toArray (0, 0) _ rfl (setRow_heap _ _ _ _ _ _ F5Q.out) Tryz.underlying55 rfl (by kernel_rfl)) rfl ?_
          exact ⟨by rw [RW.out]; rfl, below_setRow BY.out (by have := G5.out; omega) _⟩
        | true =>
          cases qb with
          | false =>
            have RW : Hid (R = (0, fC 105)) := by show _ = _; rw [RV.out, FV.out]; rfl
            go_wp2_with fail
            refine (bare_any 105 w9).mono ?_
            rintro e w11 ⟨rfl, bb⟩
            have F5Q := Lib.hid (row_below F5R.out bb)
            have BY := Lib.hid (BZ.out.trans (bb.mono BZ.out.size))
            clear bb
            go_wp2_with ((with_reducible show wpList _ _ _ _ _ _); (refine wpList_store_row rfl 55 (.tmp 5) (.tmp 65) rfl g5 (fC 105).toArray rfl rfl 55 _ F5Q.out (by kernel_rfl) rfl (fault_all _) ?_; go_frame))
            refine bodyPost_ret (results_tc rfl _ _ g5 55 (fC 105).toArray (0, 0) _ rfl (setRow_heap _ _ _ _ _ _ F5Q.out) Tryz.underlying55 rfl (by kernel_rfl)) rfl ?_
            exact ⟨by rw [RW.out]; rfl, below_setRow BY.out (by have := G5.out; omega) _⟩
          | true =>
            by_cases hab : a < b
            · have RW : Hid (R = (0, fC 117)) := by show _ = _; rw [RV.out, FV.out, if_neg (by decide), if_pos hab]
              have l1 : (a : Int) < (b : Int) := by omega
              clear hab
              go_wp2_with fail
              refine (bare_any 117 w9).mono ?_
              rintro e w11 ⟨rfl, bb⟩
              have F5Q := Lib.hid (row_below F5R.out bb)
              have BY := Lib.hid (BZ.out.trans (bb.mono BZ.out.size))
              clear bb
              go_wp2_with ((with_reducible show wpList _ _ _ _ _ _); (refine wpList_store_row rfl 55 (.tmp 5) (.tmp 69) rfl g5 (fC 117).toArray rfl rfl 55 _ F5Q.out (by kernel_rfl) rfl (fault_all _) ?_; go_frame))
              refine bodyPost_ret (results_tc rfl _ _ g5 55 (fC 117).toArray (0, 0) _ rfl (setRow_heap _ _ _ _ _ _ F5Q.out) Tryz.underlying55 rfl (by kernel_rfl)) rfl ?_
              exact ⟨by rw [RW.out]; rfl, below_setRow BY.out (by have := G5.out; omega) _⟩
            · have RW : Hid (R = (a - b, fC 0)) := by show _ = _; rw [RV.out, FV.out, if_neg (by decide), if_neg hab]
              have l1 : ¬ (a : Int) < (b : Int) := by omega
              have sb : IntKind.u64.wrap ((a : Int) - (b : Int)) = ((a - b : Nat) : Int) := by rw [IntKind.wrap_u64]; have := SB.out; omega
              go_wp2_with fail
              refine (none_any w9).mono ?_
              rintro e w11 ⟨rfl, bb⟩
              have F5Q := Lib.hid (row_below F5R.out bb)
              have BY := Lib.hid (BZ.out.trans (bb.mono BZ.out.size))
              clear bb
              go_wp2_with ((with_reducible show wpList _ _ _ _ _ _); (refine wpList_store_row rfl 55 (.tmp 5) (.tmp 73) rfl g5 (fC 0).toArray rfl rfl 55 _ F5Q.out (by kernel_rfl) rfl (fault_all _) ?_; go_frame))
              refine bodyPost_ret (results_tc rfl _ _ g5 55 (fC 0).toArray (0, 0) _ rfl (setRow_heap _ _ _ _ _ _ F5Q.out) Tryz.underlying55 rfl (by kernel_rfl)) rfl ?_
              exact ⟨by rw [RW.out]; rfl, below_setRow BY.out (by have := G5.out; omega) _⟩
  · have q1 : ((nm : Int) != (n : Int)) = true := by simp; omega
    have RV : Hid (R = (0, fC 102)) := by show _ = _; rw [FE.out, if_pos hne]
    clear hne FE
    go_wp2_with fail
    refine (bare_any 102 w1).mono ?_
    rintro e w8 ⟨rfl, bb⟩
    have F5R := Lib.hid (row_below F5.out bb)
    have BZ := Lib.hid (B1.out.trans (bb.mono B1.out.size))
    clear bb
    go_wp2_with ((with_reducible show wpList _ _ _ _ _ _); (refine wpList_store_row rfl 55 (.tmp 5) (.tmp 18) rfl g5 (fC 102).toArray rfl rfl 55 _ F5R.out (by kernel_rfl) rfl (fault_all _) ?_; go_frame))
    refine bodyPost_ret (results_tc rfl _ _ g5 55 (fC 102).toArray (0, 0) _ rfl (setRow_heap _ _ _ _ _ _ F5R.out) Tryz.underlying55 rfl (by kernel_rfl)) rfl ?_
    exact ⟨by rw [RV.out]; rfl, below_setRow BZ.out (by have := G5.out; omega) _⟩
end Go.Proofs.YtckkcpplanfmhaaGreatDoor.Sha

/-
  The statements' own: whether a transaction has waited long enough. Nothing that was there turns. Conditions: as for Need.
-/
namespace Go.Proofs.YtckkcpplanfmhaaGreatDoor.Sha
open Go Go.RowKit
def metB (t : TTx) (hs : List Int) (ps : List Nat) (height : Int) (past : Nat) : Bool := decide ((needL t hs ps).1 < height) && decide ((needL t hs ps).2 < (past : Int))
set_option maxHeartbeats 2000000 in
set_option maxRecDepth 100000 in
theorem rmet_any (w : World) (v vh vp : Value) (t : TTx) (hs : List Int) (ps : List Nat) (height : Int) (past : Nat) (h : TxAt w v t) (hh : RwAt 1 w vh (hs.map intC)) (hp : RwAt 1 w vp (ps.map u32C)) (hl1 : hs.length = t.ins.length) (hl2 : ps.length = t.ins.length) (hm : t.ins.length ≤ 1000000) (hb : ∀ p ∈ ps, p ≤ 4294967295) (hpa : past ≤ 4294967295) :
    Calls Tryz.prog 43 #[v, vh, vp, .int .i64 height, .int .u32 (past : Int)] w fun e w' => e = .returned (.bool (metB t hs ps height past)) ∧ Below w.heap.size w w' := by
  have h0 := h
  obtain ⟨_, iv, ov, rfl, hin, hou⟩ := h
  have TONE : Hid ((txL t iv ov).toArray.all (·.oneCell') = true) := tx_one hin hou
  have LT : Hid ((txL t iv ov).toArray.size = 4) := rfl
  have ND : Hid (∀ W, Below w.heap.size w W → Calls Tryz.prog 79 #[.agg (txL t iv ov).toArray, vh, vp] W fun e w' => e = .returned (.tuple #[.int .i64 (needL t hs ps).1, .int .i64 (needL t hs ps).2, .bool true]) ∧ Below W.heap.size W w') := fun W hW => rneed_any W _ vh vp t hs ps (h0.below hW) (hh.below hW) (hp.below hW) hl1 hl2 hm hb
  have ME : Hid (metB t hs ps height past = (decide ((needL t hs ps).1 < height) && decide ((needL t hs ps).2 < (past : Int)))) := rfl
  obtain ⟨R, hR⟩ : ∃ R, R = metB t hs ps height past := ⟨_, rfl⟩
  rw [← hR] at ME ⊢
  obtain ⟨a1, ha1⟩ : ∃ a1, a1 = (needL t hs ps).1 := ⟨_, rfl⟩
  obtain ⟨a2, ha2⟩ : ∃ a2, a2 = (needL t hs ps).2 := ⟨_, rfl⟩
  rw [← ha1, ← ha2] at ND ME
  obtain ⟨ct, hct⟩ : ∃ ct, ct = txL t iv ov := ⟨_, rfl⟩
  rw [← hct] at TONE LT ND ⊢
  clear h0 hin hou hh hp hl1 hl2 hm hb hR ha1 ha2 hct
  go_enter Tryz.func43, Tryz.ntmps43
  go_upto_region 1 with fail
  have f5 := heap_alloc_new w (.cells ct.toArray 27 (0, 0))
  have b1 := (Below.refl w.heap.size w).alloc (Nat.le_refl _) (.cells ct.toArray 27 (0, 0))
  generalize hw1 : World.alloc _ _ = w1
  have e1 : w.alloc (.cells ct.toArray 27 (0, 0)) = w1 := hw1
  rw [e1] at f5 b1
  obtain ⟨g5, hg5⟩ : ∃ g5, g5 = w.heap.size := ⟨_, rfl⟩
  rw [← hg5] at f5 ⊢
  have F5 := Lib.hid f5
  have B1 := Lib.hid b1
  clear f5 b1 hw1 e1 hg5
  go_wp2_with ((with_reducible show wpList _ _ _ _ _ _); (refine wpList_load_row rfl 27 (.tmp 5) rfl g5 rfl 27 ct.toArray (0, 0) _ F5.out Tryz.underlying27 rfl (by rw [LT.out]; kernel_rfl) ?_; go_frame))
  refine (ND.out w1 B1.out).mono ?_
  rintro e w2 ⟨rfl, bb⟩
  have B1 := Lib.hid (B1.out.trans (bb.mono B1.out.size))
  clear bb ND F5
  by_cases h1 : a1 < height
  · by_cases h2 : a2 < (past : Int)
    · have hw1 : IntKind.i64.wrap (past : Int) = (past : Int) := i64_stays (by omega)
      have hw2 : wrap64 (past : Int) = (past : Int) := by rw [← IntWalk.i64_left]; exact hw1
      have RV : Hid (R = true) := by show _ = _; rw [ME.out, decide_eq_true h1, decide_eq_true h2]; rfl
      have h3 : ¬ (past : Int) ≤ a2 := by omega
      have h4 : ¬ height ≤ a1 := by omega
      go_wp2_with fail
      go_ret
      exact ⟨by rw [RV.out]; first | rfl | (rw [decide_eq_true (show a2 < (past : Int) by omega)]; rfl), B1.out⟩
    · have hw1 : IntKind.i64.wrap (past : Int) = (past : Int) := i64_stays (by omega)
      have hw2 : wrap64 (past : Int) = (past : Int) := by rw [← IntWalk.i64_left]; exact hw1
      have RV : Hid (R = false) := by show _ = _; rw [ME.out, decide_eq_true h1, decide_eq_false h2]; rfl
      have h4 : ¬ height ≤ a1 := by omega
      have h3 : (past : Int) ≤ a2 := by omega
      go_wp2_with fail
      go_ret
      exact ⟨by rw [RV.out]; first | rfl | (rw [decide_eq_false (show ¬ a2 < (past : Int) by omega)]; rfl), B1.out⟩
  · have RV : Hid (R = false) := by show _ = _; rw [ME.out, decide_eq_false h1]; rfl
    have h4 : height ≤ a1 := by omega
    go_wp2_with fail
    go_ret
    exact ⟨by rw [RV.out]; rfl, B1.out⟩
end Go.Proofs.YtckkcpplanfmhaaGreatDoor.Sha

/-
  The statements' own: whether a transaction is final at a height. Nothing that was there turns. Conditions: the transaction lies in memory.
-/
namespace Go.Proofs.YtckkcpplanfmhaaGreatDoor.Sha
open Go Go.RowKit
def finB (t : TTx) (height : Int) (past : Nat) : Bool := if t.time = 0 ∨ (t.time < 500000000 ∧ (t.time : Int) < height) ∨ (500000000 ≤ t.time ∧ t.time < past) then true else t.ins.all fun x => decide (x.seq = 4294967295)
def FnInv (n : Nat) (l : List TIn) (vi : Value) : Prop := ∃ i : Nat, i ≤ n ∧ vi = .int .i64 (i : Int) ∧ ∀ (j : Nat) x, j < i → l[j]? = some x → x.seq = 4294967295
set_option maxHeartbeats 2000000 in
set_option maxRecDepth 100000 in
theorem rfinal_any (w : World) (v : Value) (t : TTx) (height : Int) (past : Nat) (h : TxAt w v t) (hm : t.ins.length ≤ 1000000) :
    Calls Tryz.prog 42 #[v, .int .i64 height, .int .u32 (past : Int)] w fun e w' => e = .returned (.bool (finB t height past)) ∧ Below w.heap.size w w' := by
  obtain ⟨hok, iv, ov, rfl, ⟨sp, cap, rfl, hcap, hs⟩, _⟩ := h
  have row := heap_alloc_new w (.cells (txL t (.slice sp t.ins.length cap) ov).toArray 27 (0, 0))
  have bb := (Below.refl w.heap.size w).alloc (Nat.le_refl _) (.cells (txL t (.slice sp t.ins.length cap) ov).toArray 27 (0, 0))
  have c3 : (w.alloc (.cells (txL t (.slice sp t.ins.length cap) ov).toArray 27 (0, 0))).cell? ⟨w.heap.size, 3, none⟩ = some (.int .u32 (t.time : Int)) := by rw [cell_of_row _ _ _ _ _ _ row]; rfl
  have c1 : (w.alloc (.cells (txL t (.slice sp t.ins.length cap) ov).toArray 27 (0, 0))).cell? ⟨w.heap.size, 1, none⟩ = some (.slice sp t.ins.length cap) := by rw [cell_of_row _ _ _ _ _ _ row]; rfl
  have hs2 : 0 < t.ins.length → ∃ b o, sp = some ⟨b, o, none⟩ ∧ ∀ (i : Nat) x, t.ins[i]? = some x → (w.alloc (.cells (txL t (.slice sp t.ins.length cap) ov).toArray 27 (0, 0))).cell? ⟨b, o + i * 35 + 34, none⟩ = some (.int .u32 (x.seq : Int)) := fun h0 => by
    obtain ⟨b, o, e, hg⟩ := hs h0
    refine ⟨b, o, e, fun i x hx => ?_⟩
    obtain ⟨⟨hl, _⟩, kv, _, hr⟩ := hg i x hx
    exact in_seq hl (range_below hr bb)
  obtain ⟨ct, hct⟩ : ∃ ct, ct = txL t (.slice sp t.ins.length cap) ov := ⟨_, rfl⟩
  rw [← hct] at c1 c3 hs2 bb ⊢
  obtain ⟨ans, han⟩ : ∃ ans, ans = finB t height past := ⟨_, rfl⟩
  have AN : Hid (ans = if t.time = 0 ∨ (t.time < 500000000 ∧ (t.time : Int) < height) ∨ (500000000 ≤ t.time ∧ t.time < past) then true else t.ins.all fun x => decide (x.seq = 4294967295)) := han
  rw [← han]
  have tm : t.time ≤ 4294967295 := hok.2
  obtain ⟨tt, htt⟩ : ∃ tt, tt = t.time := ⟨_, rfl⟩
  obtain ⟨l, hl⟩ : ∃ l, l = t.ins := ⟨_, rfl⟩
  rw [← htt] at c3 AN tm
  rw [← hl] at hs2 AN hm
  obtain ⟨n, hn⟩ : ∃ n, n = l.length := ⟨_, rfl⟩
  rw [← hl, ← hn] at c1
  rw [← hn] at hs2 hm
  have NE := Lib.hid hn
  have HS := Lib.hid hs2
  clear row han htt hl hct hs hok hcap hn hs2
  go_enter Tryz.func42, Tryz.ntmps42
  go_upto_region 1 with fail
  generalize hq : World.alloc _ _ = w1
  have e1 : w.alloc (.cells ct.toArray 27 (0, 0)) = w1 := hq
  rw [e1] at c1 c3 bb HS
  clear hq e1
  have B1 := Lib.hid bb
  clear bb
  by_cases h1 : tt = 0
  · subst h1
    go_wp2_with fail
    go_ret
    exact ⟨by rw [AN.out, if_pos (by first | exact .inl rfl | exact .inl trivial)]; rfl, B1.out⟩
  have z1 : ((tt : Int) == 0) = false := beq_eq_false_iff_ne.2 (by omega)
  have z2 : ((0 : Int) == (tt : Int)) = false := beq_eq_false_iff_ne.2 (by omega)
  by_cases h5 : tt < 500000000
  · have a1 : (tt : Int) < 500000000 := by omega
    have a2 : ¬ (500000000 : Int) ≤ (tt : Int) := by omega
    by_cases hh : (tt : Int) < height
    · go_wp2_with fail
      go_ret
      exact ⟨by rw [AN.out, if_pos (.inr (.inl ⟨h5, hh⟩))]; rfl, B1.out⟩
    · have AN2 : Hid (ans = l.all fun x => decide (x.seq = 4294967295)) := by show _ = _; rw [AN.out, if_neg (by omega)]
      go_wp2_with fail
      clear h5 h1 hh tm a1 a2 z1 z2 AN
      go_loopw [7] (fun vi wr => wr = w1 ∧ FnInv n l vi) (fun vi _ => n - (intOf vi).toNat)
      case atStart => exact ⟨rfl, 0, Nat.zero_le _, rfl, fun j x hj => absurd hj (by omega)⟩
      case round =>
        obtain ⟨rfl, i, hin, rfl, hlow⟩ := hrel
        have LOW := Lib.hid hlow
        clear hlow
        by_cases hlt : i < n
        · obtain ⟨b, o, rfl, hg⟩ := HS.out (by omega)
          obtain ⟨x, hx⟩ : ∃ x, l[i]? = some x := ⟨_, List.getElem?_eq_getElem (by rw [← NE.out]; exact hlt)⟩
          have cx := hg i x hx
          have XK := Lib.hid hx
          clear hg hx
          have q0 : (i : Int) < (n : Int) := by omega
          by_cases hseq : x.seq = 4294967295
          · rw [hseq] at cx
            go_wp2_with fail
            go_roundw
            case rel =>
              refine ⟨(by first | rfl | trivial), i + 1, by omega, by go_num, fun j y hj hy => ?_⟩
              rcases Nat.lt_or_ge j i with h | h
              · exact LOW.out j y h hy
              · have e : j = i := by omega
                rw [e, XK.out] at hy
                cases hy
                exact hseq
            case measure => simp [intOf]; omega
          · have y1 : ((x.seq : Int) == 4294967295) = false := beq_eq_false_iff_ne.2 (by omega)
            have AF : Hid (ans = false) := by
              show _ = _
              rw [AN2.out, Bool.eq_false_iff]
              intro h
              have := List.all_eq_true.1 h x (List.mem_of_getElem? XK.out)
              exact hseq (of_decide_eq_true this)
            clear hseq XK
            generalize x.seq = sq at cx y1
            go_wp2_with fail
            go_ret
            exact ⟨by rw [AF.out]; rfl, B1.out⟩
        · have AT : Hid (ans = true) := by
            show _ = _
            rw [AN2.out, List.all_eq_true]
            intro x hx
            obtain ⟨j, hj⟩ := List.getElem?_of_mem hx
            exact decide_eq_true (LOW.out j x (by have := (List.getElem?_eq_some_iff.1 hj).1; have := NE.out; omega) hj)
          have q0 : ¬ (i : Int) < (n : Int) := by omega
          go_wp2_with fail
          go_ret
          exact ⟨by rw [AT.out]; rfl, B1.out⟩
  · have a1 : ¬ (tt : Int) < 500000000 := by omega
    have a2 : (500000000 : Int) ≤ (tt : Int) := by omega
    by_cases hh : (tt : Int) < (past : Int)
    · go_wp2_with fail
      go_ret
      exact ⟨by rw [AN.out, if_pos (.inr (.inr ⟨by omega, by omega⟩))]; rfl, B1.out⟩
    · have AN2 : Hid (ans = l.all fun x => decide (x.seq = 4294967295)) := by show _ = _; rw [AN.out, if_neg (by omega)]
      go_wp2_with fail
      clear h5 h1 hh tm a1 a2 z1 z2 AN
      go_loopw [7] (fun vi wr => wr = w1 ∧ FnInv n l vi) (fun vi _ => n - (intOf vi).toNat)
      case atStart => exact ⟨rfl, 0, Nat.zero_le _, rfl, fun j x hj => absurd hj (by omega)⟩
      case round =>
        obtain ⟨rfl, i, hin, rfl, hlow⟩ := hrel
        have LOW := Lib.hid hlow
        clear hlow
        by_cases hlt : i < n
        · obtain ⟨b, o, rfl, hg⟩ := HS.out (by omega)
          obtain ⟨x, hx⟩ : ∃ x, l[i]? = some x := ⟨_, List.getElem?_eq_getElem (by rw [← NE.out]; exact hlt)⟩
          have cx := hg i x hx
          have XK := Lib.hid hx
          clear hg hx
          have q0 : (i : Int) < (n : Int) := by omega
          by_cases hseq : x.seq = 4294967295
          · rw [hseq] at cx
            go_wp2_with fail
            go_roundw
            case rel =>
              refine ⟨(by first | rfl | trivial), i + 1, by omega, by go_num, fun j y hj hy => ?_⟩
              rcases Nat.lt_or_ge j i with h | h
              · exact LOW.out j y h hy
              · have e : j = i := by omega
                rw [e, XK.out] at hy
                cases hy
                exact hseq
            case measure => simp [intOf]; omega
          · have y1 : ((x.seq : Int) == 4294967295) = false := beq_eq_false_iff_ne.2 (by omega)
            have AF : Hid (ans = false) := by
              show _ = _
              rw [AN2.out, Bool.eq_false_iff]
              intro h
              have := List.all_eq_true.1 h x (List.mem_of_getElem? XK.out)
              exact hseq (of_decide_eq_true this)
            clear hseq XK
            generalize x.seq = sq at cx y1
            go_wp2_with fail
            go_ret
            exact ⟨by rw [AF.out]; rfl, B1.out⟩
        · have AT : Hid (ans = true) := by
            show _ = _
            rw [AN2.out, List.all_eq_true]
            intro x hx
            obtain ⟨j, hj⟩ := List.getElem?_of_mem hx
            exact decide_eq_true (LOW.out j x (by have := (List.getElem?_eq_some_iff.1 hj).1; have := NE.out; omega) hj)
          have q0 : ¬ (i : Int) < (n : Int) := by omega
          go_wp2_with fail
          go_ret
          exact ⟨by rw [AT.out]; rfl, B1.out⟩
end Go.Proofs.YtckkcpplanfmhaaGreatDoor.Sha
