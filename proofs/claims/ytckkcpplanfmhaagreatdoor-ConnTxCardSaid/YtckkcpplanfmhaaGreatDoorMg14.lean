/-
  Texts of this proof joined into one file: VlFee, BlStore, GMap, OwnMap, UdWay, UdMath2, BlRefIds, BlFirst, BlStart, MkPair. What each holds, and under which conditions, its own first sentence tells.
-/
import Derived.Lib.OwnKind
import Derived.IntWalk
import Derived.Lib.AppendZerosOnto
import Derived.Lib.Walk
import Derived.Test.YtckkcpplanfmhaaGreatDoorMg12
import Derived.Test.YtckkcpplanfmhaaGreatDoorMg13
import Derived.Test.YtckkcpplanfmhaaGreatDoorMg04
import Derived.Test.YtckkcpplanfmhaaGreatDoorMg08
import Derived.Test.YtckkcpplanfmhaaGreatDoorMg11
import Derived.Test.YtckkcpplanfmhaaGreatDoorMg06
import Derived.Test.YtckkcpplanfmhaaGreatDoorMg05
import Derived.Test.YtckkcpplanfmhaaGreatDoorMg03
import Derived.Test.YtckkcpplanfmhaaGreatDoorMg01
/-
  Package value: what a transaction leaves over of its coins, or its first fault. Nothing that was there turns. Conditions: the transaction and the coins lie in memory, at most a million inputs and outputs; the four errors are there, and the table of the rounds' words.
-/
namespace Go.Proofs.YtckkcpplanfmhaaGreatDoor.Sha
open Go Go.RowKit
def feeW (va vb : List Nat) : Nat × Nat × Option Nat := if (sumIs va && sumIs vb) = false then (0, 5, none) else if sumL va < sumL vb then (0, 17, none) else (sumL va - sumL vb, 0, none)
def feeR (t : TTx) (ms : List TMn) : Nat × Nat × Option Nat :=
  if ms.length ≠ t.ins.length then (0, 2, none) else
  match (opB t ms).findIdx? (fun b => !b) with
  | some i => (0, 14, some i)
  | none => feeW (ms.map (·.val)) (t.outs.map (·.val))
def fltL : Nat × Option Nat → List Value
  | (c, none) => fC (numE c)
  | (c, some i) => pC (numE c) (i : Int)
theorem feeL_of (t : TTx) (ms : List TMn) : feeL t ms = ((feeR t ms).1, fltL (feeR t ms).2) := by
  unfold feeL feeR
  generalize (opB t ms).findIdx? (fun b => !b) = o
  split
  · rfl
  · cases o with
    | some i => rfl
    | none =>
      show feeV _ _ = ((feeW _ _).1, fltL (feeW _ _).2)
      unfold feeV feeW
      split
      · rfl
      · split <;> rfl
/-- The errors that Fee tells. -/
def FeE (w : World) (E : Nat → Addr) : Prop := ∀ i, i = 1 ∨ i = 4 ∨ i = 13 ∨ i = 16 → w.cell? ⟨errG.getD i 0, 0, none⟩ = some (errV E (i + 1))
theorem Errs.fee {w : World} {E : Nat → Addr} (h : Errs w E) : FeE w E := fun i hi => (h.1 i (by omega)).1
theorem FeE.below {w w' : World} {E : Nat → Addr} (h : FeE w E) (hb : Below w.heap.size w w') : FeE w' E := fun i hi => cell_below (h i hi) hb
def heM (c : TMn) : Nat × List Value := (c.val, c.lock.map bV ++ [.int .i64 c.height, .bool c.base])
def heO (y : TOut) : Nat × List Value := (y.val, y.lock.map bV)
theorem heM_row {w : World} {v : Value} {ms : List TMn} (h : RwAt 35 w v (ms.map mnL)) : RwAt 35 w v ((ms.map heM).map heL) := by rw [List.map_map]; exact h
theorem heM_ok {c : TMn} (h : MnOk c) : HeOk 35 (heM c) := ⟨by simp [heM, h.1], fun u hu => by
  rcases List.mem_append.1 hu with hu | hu
  · exact bV_one' _ u hu
  · simp only [List.mem_cons, List.not_mem_nil, or_false] at hu
    rcases hu with rfl | rfl <;> rfl⟩
theorem heO_row {w : World} {v : Value} {l : List TOut} (h : OutsAt w v l) : RwAt 33 w v ((l.map heO).map heL) ∧ ∀ x ∈ l.map heO, HeOk 33 x := by
  obtain ⟨sp, cap, rfl, hc, hg⟩ := h
  have ok : ∀ y ∈ l, OutOk y := fun y hy => by
    obtain ⟨i, hi⟩ := List.getElem?_of_mem hy
    obtain ⟨b, o, _, hg⟩ := hg (List.length_pos_of_mem hy)
    exact (hg i y hi).1
  have hx : ∀ x ∈ l.map heO, HeOk 33 x := fun x hx => by
    obtain ⟨y, hy, rfl⟩ := List.mem_map.1 hx
    exact ⟨by simp [heO, (ok y hy).1], fun u hu => bV_one' _ u hu⟩
  refine ⟨⟨fun x hx2 => by obtain ⟨y, hy, rfl⟩ := List.mem_map.1 hx2; exact heL_length (hx y hy), sp, cap, by simp, by simpa using hc, fun h0 => ?_⟩, hx⟩
  · obtain ⟨b, o, e, hg⟩ := hg (by simpa using h0)
    refine ⟨b, o, e, fun i x hx => ?_⟩
    rw [List.map_map, List.getElem?_map] at hx
    cases hy : l[i]? with
    | none => rw [hy] at hx; cases hx
    | some y =>
      rw [hy] at hx
      cases hx
      exact (hg i y hy).2
def FvI (B : List Bool) (n : Nat) (w : World) (vi : Value) (wr : World) : Prop :=
  ∃ k : Nat, vi = .int .i64 (k : Int) ∧ k ≤ n ∧ (∀ j, j < k → B[j]? = some true) ∧ Below w.heap.size w wr
def mnZ0 : List Value := uV 0 :: (List.replicate 32 (bV 0) ++ [.int .i64 0, .bool false])
set_option maxHeartbeats 2000000 in
set_option maxRecDepth 100000 in
theorem vlfee_any (E : Nat → Addr) (w : World) (v vm : Value) (t : TTx) (ms : List TMn) (h : TxAt w v t) (hh : RwAt 35 w vm (ms.map mnL)) (hok : ∀ m ∈ ms, MnOk m) (hm : t.ins.length ≤ 1000000) (hmm : ms.length ≤ 1000000) (hmo : t.outs.length ≤ 1000000) (hE : FeE w E) (hK : ∀ W, Below w.heap.size w W → KTab W) :
    Calls Tryz.prog 35 #[v, vm] w fun e w' => ∃ u, e = .returned (.tuple #[.int .u64 ((feeR t ms).1 : Int), u]) ∧ FltV w' E u (feeR t ms).2 ∧ Below w.heap.size w w' := by
  have h0 := h
  obtain ⟨_, iv, ov, rfl, hin, hou⟩ := h
  have TONE : Hid ((txL t iv ov).toArray.all (·.oneCell') = true) := tx_one hin hou
  have LT : Hid ((txL t iv ov).toArray.size = 4) := rfl
  have CO : Hid (∀ (W : World) (g : Nat), W.heap[g]? = some (.cells (txL t iv ov).toArray 27 (0, 0)) → W.cell? ⟨g, 1, none⟩ = some iv ∧ W.cell? ⟨g, 2, none⟩ = some ov) := fun W g hg => ⟨(tx_cells hg).2.1, (tx_cells hg).2.2.1⟩
  obtain ⟨ho1, ho2⟩ := heO_row hou
  have VO : Hid (∀ W, Below w.heap.size w W → Calls Tryz.prog 71 #[ov] W fun e w' => ∃ v', e = .returned v' ∧ SrcU w' v' (t.outs.map (·.val)) ∧ Below W.heap.size W w') := fun W hW => by
    have h := vlouts_any W ov (t.outs.map heO) (ho1.below hW) ho2 (by rw [List.length_map]; exact hmo)
    rw [List.map_map] at h
    exact h
  have VC : Hid (∀ W, Below w.heap.size w W → Calls Tryz.prog 70 #[vm] W fun e w' => ∃ v', e = .returned v' ∧ SrcU w' v' (ms.map (·.val)) ∧ Below W.heap.size W w') := fun W hW => by
    have h := vlcoins_any W vm (ms.map heM) ((heM_row hh).below hW) (fun x hx => by obtain ⟨c, hc, rfl⟩ := List.mem_map.1 hx; exact heM_ok (hok c hc)) (by rw [List.length_map]; exact hmm)
    rw [List.map_map] at h
    exact h
  obtain ⟨si, ci, rfl, _, hgi⟩ := hin
  obtain ⟨so, co, hso, _⟩ := hou
  obtain ⟨sm, cm, hsm⟩ := hh.shape
  rw [hsm] at hh VC ⊢
  clear hsm ho1 ho2
  simp only [List.length_map] at hh VC ⊢
  obtain ⟨n, hn⟩ : ∃ n, n = t.ins.length := ⟨_, rfl⟩
  rw [← hn] at hm CO TONE LT hgi ⊢
  have N := Lib.hid hn
  have HI := Lib.hid hgi
  have MO := Lib.hid hok
  have HE := Lib.hid hE
  have HK := Lib.hid hK
  obtain ⟨nm, hnm⟩ : ∃ nm, nm = ms.length := ⟨_, rfl⟩
  rw [← hnm] at hh VC ⊢
  have NM := Lib.hid hnm
  have HH := Lib.hid hh
  obtain ⟨B0, hB0⟩ : ∃ B, B = opB t ms := ⟨_, rfl⟩
  have BG : Hid (∀ (i : Nat) (x : TIn) (m : TMn), t.ins[i]? = some x → ms[i]? = some m → B0[i]? = some (opensL x.key m.lock)) := fun i x m h1 h2 => by rw [hB0]; exact opB_get h1 h2
  have BL : Hid (nm = n → B0.length = n) := fun e => by rw [hB0]; unfold opB; simp; omega
  obtain ⟨va, hva⟩ : ∃ va, va = ms.map (·.val) := ⟨_, rfl⟩
  obtain ⟨vo, hvo⟩ : ∃ vo, vo = t.outs.map (·.val) := ⟨_, rfl⟩
  rw [← hvo] at VO
  rw [← hva] at VC
  have VOL : Hid (vo.length ≤ 1000000) := by show _ ≤ _; rw [hvo, List.length_map]; exact hmo
  have VAL : Hid (va.length ≤ 1000000) := by show _ ≤ _; rw [hva, List.length_map]; exact hmm
  have FE : Hid (feeR t ms = if nm ≠ n then (0, 2, none) else match B0.findIdx? (fun b => !b) with | some i => (0, 14, some i) | none => feeW va vo) := by rw [hnm, hn, hB0, hva, hvo]; rfl
  obtain ⟨R, hR⟩ : ∃ R, R = feeR t ms := ⟨_, rfl⟩
  rw [← hR] at FE ⊢
  obtain ⟨ct, hct⟩ : ∃ ct, ct = txL t (.slice si n ci) ov := ⟨_, rfl⟩
  rw [← hct] at TONE LT CO ⊢
  clear hn hnm hgi hh hok hB0 hva hvo hR hct h0 hmo hE hK hso
  go_enter Tryz.func35, Tryz.ntmps35
  go_upto_region 1 with fail
  have f2 := heap_alloc_new w (.cells ct.toArray 27 (0, 0))
  have b1 := (Below.refl w.heap.size w).alloc (Nat.le_refl _) (.cells ct.toArray 27 (0, 0))
  generalize hw1 : World.alloc _ _ = w1
  have e1 : w.alloc (.cells ct.toArray 27 (0, 0)) = w1 := hw1
  rw [e1] at f2 b1
  obtain ⟨g2, hg2⟩ : ∃ g2, g2 = w.heap.size := ⟨_, rfl⟩
  rw [← hg2] at f2 ⊢
  have F2 := Lib.hid f2
  have B1 := Lib.hid b1
  obtain ⟨c1, c2⟩ := CO.out _ _ F2.out
  clear f2 b1 hw1 e1 hg2
  by_cases hne : nm = n
  · have hne2 := hne.symm
    subst hne2
    have q1 : ((n : Int) != (n : Int)) = false := by simp
    have FE2 : Hid (R = match B0.findIdx? (fun b => !b) with | some i => (0, 14, some i) | none => feeW va vo) := by show _ = _; rw [FE.out, if_neg (by simp)]
    have BLN : Hid (B0.length = n) := BL.out rfl
    clear FE
    clear c2
    go_wp2_with fail
    clear c1
    go_loopw [21] (fun vi wr => FvI B0 n w1 vi wr) (fun vi _ => n - (intOf vi).toNat)
    case atStart => exact ⟨0, rfl, Nat.zero_le _, fun j hj => absurd hj (by omega), Below.refl _ _⟩
    case round =>
      obtain ⟨k, rfl, hk, hopn, hbel⟩ := hrel
      have OA := Lib.hid hopn
      have B := Lib.hid hbel
      have BB := Lib.hid (B1.out.trans (hbel.mono B1.out.size))
      clear hopn hbel
      by_cases hlt : k < n
      · obtain ⟨x, hx⟩ : ∃ x, t.ins[k]? = some x := ⟨_, List.getElem?_eq_getElem (by rw [← N.out]; exact hlt)⟩
        obtain ⟨m, hmk⟩ : ∃ m, ms[k]? = some m := ⟨_, List.getElem?_eq_getElem (by rw [← NM.out]; exact hlt)⟩
        obtain ⟨bi, oi, rfl, hg⟩ := HI.out (by omega)
        obtain ⟨bm, om, rfl, hgm⟩ := (HH.out.below BB.out).get (by omega)
        have RM := Lib.hid (hgm k (mnL m) (by rw [List.getElem?_map, hmk]; rfl))
        have om1 := MO.out m (List.mem_of_getElem? hmk)
        have LC : Hid ((mnL m).length = 35) := mnL_length om1
        have LC' : Hid ((mnL m).toArray.size = 35) := mnL_size om1
        have ONE : Hid ((mnL m).toArray.all (·.oneCell') = true) := mnL_all m
        have LKF : Hid (∀ (W : World) (g : Nat), W.heap[g]? = some (.cells (mnL m).toArray 46 (0, 0)) → W.rangeAt g 1 (m.lock.map bV)) := fun W g hg => by
          have h := mn_lock (range_of_box hg)
          rwa [Nat.zero_add] at h
        have LL : Hid ((m.lock.map bV).length = 32) := by show _ = _; rw [List.length_map]; exact om1.1
        have BK := Lib.hid (BG.out k x m hx hmk)
        have zs : Hid (mnZ0.toArray.size = (mnL m).toArray.size) := by show _ = _; rw [LC'.out]; rfl
        obtain ⟨ct7, hct7⟩ : ∃ ct7, ct7 = mnL m := ⟨_, rfl⟩
        rw [← hct7] at RM LC LC' ONE LKF zs
        have i0' : 0 ≤ (k : Int) := by omega
        have i1' : (k : Int) < (n : Int) := by omega
        go_upto_region 6 with ((with_reducible show wpList _ _ _ _ _ _); first | (refine wpList_load_mid rfl 46 (.tmp 24) rfl bm (om + k * 35) rfl ct7 _ RM.out Tryz.underlying46 rfl (by rw [LC.out]; kernel_rfl) ?_; go_frame) | (refine wpList_store_row rfl 46 (.tmp 7) (.tmp 25) rfl wr.heap.size ct7.toArray rfl rfl 46 _ (heap_alloc_new _ _) (by rw [LC'.out]; kernel_rfl) (by rw [LC'.out]; rfl) ONE.out ?_; go_frame))
        obtain ⟨_, f2, f3, f4⟩ := fill_setup (Below.refl wr.heap.size wr) mnZ0.toArray ct7.toArray 46
        generalize hqw5 : World.setRow _ _ _ = w5
        have ew5 : World.setRow (wr.alloc (.cells mnZ0.toArray 46)) wr.heap.size ct7.toArray = w5 := hqw5
        rw [ew5] at f2 f3 f4
        obtain ⟨g7, hg7⟩ : ∃ g7, g7 = wr.heap.size := ⟨_, rfl⟩
        rw [← hg7] at f2 ⊢
        have F7 := Lib.hid f2
        have Ng7 : Hid (wr.heap.size ≤ g7) := by show _ ≤ _; rw [hg7]; exact Nat.le_refl _
        have B5 := Lib.hid (B.out.trans (f4.mono B.out.size))
        have BB5 := Lib.hid (BB.out.trans (f4.mono BB.out.size))
        clear f2 f3 f4 hqw5 ew5 hg7
        obtain ⟨ox, kv, hkv, hr⟩ := (hg k x hx).below BB5.out
        obtain ⟨hsk, sk, ck, rfl⟩ := hkv
        have CK := Lib.hid (in_key ox.1 hr)
        have RL := Lib.hid (LKF.out _ _ F7.out)
        have C1 := Lib.hid (CO.out _ _ (row_below F2.out B5.out)).1
        obtain ⟨ob, hob⟩ : ∃ ob, ob = opensL x.key m.lock := ⟨_, rfl⟩
        rw [← hob] at BK
        have OP : Hid (∀ W, Below w5.heap.size w5 W → Calls Tryz.prog 68 #[.slice sk x.key.length ck, .agg (m.lock.map bV).toArray] W fun e w' => e = .returned (.bool ob) ∧ Below W.heap.size W w') := fun W hW => opens_all x.key m.lock _ W (HK.out W (BB5.out.trans (hW.mono BB5.out.size))) (hsk.below hW) om1.1 ob hob
        obtain ⟨nk, hnk⟩ : ∃ nk, nk = x.key.length := ⟨_, rfl⟩
        rw [← hnk] at CK OP
        obtain ⟨lk, hlk⟩ : ∃ lk, lk = m.lock.map bV := ⟨_, rfl⟩
        rw [← hlk] at RL LL OP
        clear hx hmk hg hr hsk hgm om1 hob hnk hlk ox hct7 LKF
        cases ob with
        | false =>
          have RV : Hid (R = (0, 14, some k)) := by show _ = _; rw [FE2.out, shut_at OA.out BK.out]
          refine wp_region_held_drew (S := (fun w' => Below w5.heap.size w5 w')) (by kernel_rfl) (Below.drew (Below.refl _ _)) (fun hHeld => ?_)
          generalize hwd : w5.drew = wd at  hHeld ⊢
          clear hwd
          refine held_take (i := 0) (v := (.pointer (some ⟨g2, 1, none⟩))) rfl (by kernel_rfl) (by kernel_rfl) (by kernel_rfl) (fun _ _ _ h => h) (Or.inl ⟨by rfl, fun w' _ => by kernel_rfl⟩) hHeld ?_
          go_frame
          refine held_take (i := 1) (v := (.slice (some ⟨bi, oi, none⟩) n ci)) rfl (by kernel_rfl) (by kernel_rfl) (by kernel_rfl) (fun _ _ _ h => h) (yieldsIf_load_one (by rfl) 24 (.tmp 26) rfl g2 (1) rfl _ _ (fun w' hw' => cell_below C1.out hw') Tryz.underlying24 rfl) hHeld ?_
          go_frame
          refine held_take (i := 2) (v := (.int .i64 (k : Int))) rfl (by kernel_rfl) (by kernel_rfl) (by kernel_rfl) (fun _ _ _ h => h) (Or.inl ⟨by rfl, fun w' _ => by kernel_rfl⟩) hHeld ?_
          go_frame
          refine held_take (i := 3) (v := (.pointer (some ⟨bi, oi + k * 35, none⟩))) rfl (by kernel_rfl) (by kernel_rfl) (by kernel_rfl) (fun _ _ _ h => h) (Or.inl ⟨by rfl, fun w' _ => by go_simp⟩) hHeld ?_
          go_frame
          refine held_take (i := 4) (v := (.pointer (some ⟨bi, oi + k * 35 + 33, none⟩))) rfl (by kernel_rfl) (by kernel_rfl) (by kernel_rfl) (fun _ _ _ h => h) (Or.inl ⟨by rfl, fun w' _ => by kernel_rfl⟩) hHeld ?_
          go_frame
          refine held_take (i := 5) (v := (.slice sk nk ck)) rfl (by kernel_rfl) (by kernel_rfl) (by kernel_rfl) (fun _ _ _ h => h) (yieldsIf_load_one (by rfl) 51 (.tmp 30) rfl bi (oi + k * 35 + 33) rfl _ _ (fun w' hw' => cell_below CK.out hw') Tryz.underlying51 rfl) hHeld ?_
          go_frame
          refine held_take (i := 6) (v := (.pointer (some ⟨g7, 1, none⟩))) rfl (by kernel_rfl) (by kernel_rfl) (by kernel_rfl) (fun _ _ _ h => h) (Or.inl ⟨by rfl, fun w' _ => by kernel_rfl⟩) hHeld ?_
          go_frame
          refine held_take (i := 7) (v := (.agg lk.toArray)) rfl (by kernel_rfl) (by kernel_rfl) (by kernel_rfl) (fun _ _ _ h => h) (Sha.yieldsIf_load_mid (by rfl) 44 (.tmp 32) rfl g7 (1) rfl lk _ (fun w' hw' => range_below RL.out hw') Tryz.underlying44 rfl (by rw [LL.out]; kernel_rfl)) hHeld ?_
          go_frame
          refine wpAnyH_ready (rs := [8]) (by kernel_rfl) (by simp) (held_cons rfl (fun K hK => ?_) AllReadyH.nil)
          go_simp
          refine (OP.out _ hHeld).mono ?_
          rintro e v1 ⟨rfl, bb⟩
          have hv1 := hHeld.trans (bb.mono hHeld.size)
          clear bb hHeld
          go_wp2_with fail
          refine hK.out _ _ hv1 (fun hHeld => ?_)
          clear hK K hv1
          refine held_take (i := 9) (v := (.bool true)) rfl (by kernel_rfl) (by kernel_rfl) (by kernel_rfl) (fun _ _ _ h => h) (Or.inl ⟨by rfl, fun w' _ => by go_simp⟩) hHeld ?_
          go_frame
          refine wpAnyH_done (by kernel_rfl) ?_ _
          obtain ⟨w7, h7⟩ : ∃ w7, w7 = v1 := ⟨_, rfl⟩
          rw [← h7] at hHeld ⊢
          clear h7
          have BR := Lib.hid (B5.out.trans (hHeld.mono B5.out.size))
          have BA := Lib.hid (BB5.out.trans (hHeld.mono BB5.out.size))
          clear hHeld
          have HE7 := Lib.hid (HE.out.below BA.out)
          have q13 : w7.cell? ⟨7, 0, none⟩ = some (.iface 250 (.pointer (some (E 13)))) := HE7.out 13 (by omega)
          have Q13 := Lib.hid q13
          clear q13
          go_upto_region 7 with fail
          refine wp_region_held_drew (S := (fun w' => Below w7.heap.size w7 w')) (by kernel_rfl) (Below.drew (Below.refl _ _)) (fun hHeld => ?_)
          generalize hwd : w7.drew = wd at  hHeld ⊢
          clear hwd
          refine held_take (i := 0) (v := (.int .i64 (k : Int))) rfl (by kernel_rfl) (by kernel_rfl) (by kernel_rfl) (fun _ _ _ h => h) (Or.inl ⟨by rfl, fun w' _ => by kernel_rfl⟩) hHeld ?_
          go_frame
          refine held_take (i := 1) (v := (.iface 250 (.pointer (some (E 13))))) rfl (by kernel_rfl) (by kernel_rfl) (by kernel_rfl) (fun _ _ _ h => h) (yieldsIf_load_one (by rfl) 37 _ rfl 7 (0) rfl _ _ (fun w' hw' => cell_below Q13.out hw') Tryz.underlying37 rfl) hHeld ?_
          go_frame
          refine held_take (i := 2) (v := (.agg #[.int .i64 (k : Int), (.iface 250 (.pointer (some (E 13))))])) rfl (by kernel_rfl) (by kernel_rfl) (by kernel_rfl) (fun _ _ _ h => h) (Or.inl ⟨by rfl, fun w' _ => by kernel_rfl⟩) hHeld ?_
          go_frame
          refine held_take (i := 5) (v := (.int .u64 0)) rfl (by kernel_rfl) (by kernel_rfl) (by kernel_rfl) (fun _ _ _ h => h) (Or.inl ⟨by rfl, fun w' _ => by kernel_rfl⟩) hHeld ?_
          go_frame
          refine wpAnyH_ready (rs := [3]) (by kernel_rfl) (by simp) (held_cons rfl (fun K hK => ?_) AllReadyH.nil)
          go_simp
          have nf := heap_alloc_new wd (.cells ([.int .i64 (k : Int), (.iface 250 (.pointer (some (E 13))))]).toArray 144 (0, 0))
          have bb := (Below.refl wd.heap.size wd).alloc (Nat.le_refl _) (.cells ([.int .i64 (k : Int), (.iface 250 (.pointer (some (E 13))))]).toArray 144 (0, 0))
          obtain ⟨gv1, hgv1⟩ : ∃ g, g = wd.heap.size := ⟨_, rfl⟩
          have GFA : Hid (w7.heap.size ≤ gv1) := by show _ ≤ _; rw [hgv1]; exact hHeld.size
          generalize hqv1 : World.alloc _ _ = v1
          have ev1 : wd.alloc (.cells ([.int .i64 (k : Int), (.iface 250 (.pointer (some (E 13))))]).toArray 144 (0, 0)) = v1 := hqv1
          rw [ev1] at nf bb
          rw [← hgv1] at nf ⊢
          have FA := Lib.hid nf
          have hv1 := hHeld.trans (bb.mono hHeld.size)
          clear nf bb hqv1 ev1 hgv1 hHeld
          refine hK.out _ _ hv1 (fun hHeld => ?_)
          clear hK K hv1
          refine held_take (i := 4) (v := (.iface 142 (.pointer (some ⟨gv1, 0, none⟩)))) rfl (by kernel_rfl) (by kernel_rfl) (by kernel_rfl) (fun _ _ _ h => h) (Or.inl ⟨by rfl, fun w' _ => by go_simp⟩) hHeld ?_
          go_frame
          refine held_take (i := 6) (v := (.iface 142 (.pointer (some ⟨gv1, 0, none⟩)))) rfl (by kernel_rfl) (by kernel_rfl) (by kernel_rfl) (fun _ _ _ h => h) (Or.inl ⟨by rfl, fun w' _ => by kernel_rfl⟩) hHeld ?_
          go_frame
          refine wpAnyH_done (by kernel_rfl) ?_ _
          have BZ := Lib.hid (BA.out.trans (hHeld.mono BA.out.size))
          clear hHeld
          go_wp2_with fail
          go_ret2
          exact ⟨_, by rw [RV.out]; rfl, by rw [RV.out]; exact .inr ⟨13, k, gv1, rfl, rfl, FA.out⟩, BZ.out⟩
        | true =>
          have ON : Hid (∀ j, j < k + 1 → B0[j]? = some true) := fun j hj => by
            by_cases e : j = k
            · rw [e]; exact BK.out
            · exact OA.out j (by omega)
          refine wp_region_held_drew (S := (fun w' => Below w5.heap.size w5 w')) (by kernel_rfl) (Below.drew (Below.refl _ _)) (fun hHeld => ?_)
          generalize hwd : w5.drew = wd at  hHeld ⊢
          clear hwd
          refine held_take (i := 0) (v := (.pointer (some ⟨g2, 1, none⟩))) rfl (by kernel_rfl) (by kernel_rfl) (by kernel_rfl) (fun _ _ _ h => h) (Or.inl ⟨by rfl, fun w' _ => by kernel_rfl⟩) hHeld ?_
          go_frame
          refine held_take (i := 1) (v := (.slice (some ⟨bi, oi, none⟩) n ci)) rfl (by kernel_rfl) (by kernel_rfl) (by kernel_rfl) (fun _ _ _ h => h) (yieldsIf_load_one (by rfl) 24 (.tmp 26) rfl g2 (1) rfl _ _ (fun w' hw' => cell_below C1.out hw') Tryz.underlying24 rfl) hHeld ?_
          go_frame
          refine held_take (i := 2) (v := (.int .i64 (k : Int))) rfl (by kernel_rfl) (by kernel_rfl) (by kernel_rfl) (fun _ _ _ h => h) (Or.inl ⟨by rfl, fun w' _ => by kernel_rfl⟩) hHeld ?_
          go_frame
          refine held_take (i := 3) (v := (.pointer (some ⟨bi, oi + k * 35, none⟩))) rfl (by kernel_rfl) (by kernel_rfl) (by kernel_rfl) (fun _ _ _ h => h) (Or.inl ⟨by rfl, fun w' _ => by go_simp⟩) hHeld ?_
          go_frame
          refine held_take (i := 4) (v := (.pointer (some ⟨bi, oi + k * 35 + 33, none⟩))) rfl (by kernel_rfl) (by kernel_rfl) (by kernel_rfl) (fun _ _ _ h => h) (Or.inl ⟨by rfl, fun w' _ => by kernel_rfl⟩) hHeld ?_
          go_frame
          refine held_take (i := 5) (v := (.slice sk nk ck)) rfl (by kernel_rfl) (by kernel_rfl) (by kernel_rfl) (fun _ _ _ h => h) (yieldsIf_load_one (by rfl) 51 (.tmp 30) rfl bi (oi + k * 35 + 33) rfl _ _ (fun w' hw' => cell_below CK.out hw') Tryz.underlying51 rfl) hHeld ?_
          go_frame
          refine held_take (i := 6) (v := (.pointer (some ⟨g7, 1, none⟩))) rfl (by kernel_rfl) (by kernel_rfl) (by kernel_rfl) (fun _ _ _ h => h) (Or.inl ⟨by rfl, fun w' _ => by kernel_rfl⟩) hHeld ?_
          go_frame
          refine held_take (i := 7) (v := (.agg lk.toArray)) rfl (by kernel_rfl) (by kernel_rfl) (by kernel_rfl) (fun _ _ _ h => h) (Sha.yieldsIf_load_mid (by rfl) 44 (.tmp 32) rfl g7 (1) rfl lk _ (fun w' hw' => range_below RL.out hw') Tryz.underlying44 rfl (by rw [LL.out]; kernel_rfl)) hHeld ?_
          go_frame
          refine wpAnyH_ready (rs := [8]) (by kernel_rfl) (by simp) (held_cons rfl (fun K hK => ?_) AllReadyH.nil)
          go_simp
          refine (OP.out _ hHeld).mono ?_
          rintro e v1 ⟨rfl, bb⟩
          have hv1 := hHeld.trans (bb.mono hHeld.size)
          clear bb hHeld
          go_wp2_with fail
          refine hK.out _ _ hv1 (fun hHeld => ?_)
          clear hK K hv1
          refine held_take (i := 9) (v := (.bool false)) rfl (by kernel_rfl) (by kernel_rfl) (by kernel_rfl) (fun _ _ _ h => h) (Or.inl ⟨by rfl, fun w' _ => by go_simp⟩) hHeld ?_
          go_frame
          refine wpAnyH_done (by kernel_rfl) ?_ _
          obtain ⟨w7, h7⟩ : ∃ w7, w7 = v1 := ⟨_, rfl⟩
          rw [← h7] at hHeld ⊢
          clear h7
          have BR := Lib.hid (B5.out.trans (hHeld.mono B5.out.size))
          have BA := Lib.hid (BB5.out.trans (hHeld.mono BB5.out.size))
          clear hHeld
          go_wp2_with fail
          go_roundw
          case rel => exact ⟨k + 1, by go_num, by omega, ON.out, BR.out⟩
          case measure => simp [intOf]; omega
      · have hkn : k = n := by omega
        have bln : B0.length = n := BLN.out
        have RV : Hid (R = feeW va vo) := by
          show _ = _
          rw [FE2.out, shut_no (fun j (hj : j < B0.length) => OA.out j (by rw [hkn, ← bln]; exact hj))]
        have i1' : ¬ (k : Int) < (n : Int) := by omega
        have F2R := Lib.hid (row_below F2.out B.out)
        clear hkn hlt OA bln
        go_wp2_with fail
        refine (VC.out wr BB.out).mono ?_
        rintro e w8 ⟨v8, rfl, sv8, bb⟩
        have F2R := Lib.hid (row_below F2R.out bb)
        have BB := Lib.hid (BB.out.trans (bb.mono BB.out.size))
        have SA := sum_c va v8 w8 sv8 (by have := VAL.out; omega)
        clear bb sv8
        go_wp2_with fail
        refine SA.mono ?_
        rintro e w9 ⟨rfl, rfl⟩
        clear SA
        have SV : Hid (sumV va = .tuple #[.int .u64 (sumL va : Nat), .bool (sumIs va)]) := rfl
        have SW : Hid (sumV vo = .tuple #[.int .u64 (sumL vo : Nat), .bool (sumIs vo)]) := rfl
        have FV : Hid (feeW va vo = if (sumIs va && sumIs vo) = false then (0, 5, none) else if sumL va < sumL vo then (0, 17, none) else (sumL va - sumL vo, 0, none)) := rfl
        have SB : Hid (sumL va ≤ 2100000000000000) := by show _ ≤ _; unfold sumL; split <;> simp_all [most_eq]
        obtain ⟨a, ha⟩ : ∃ a, a = sumL va := ⟨_, rfl⟩
        obtain ⟨b, hb⟩ : ∃ b, b = sumL vo := ⟨_, rfl⟩
        obtain ⟨qa, hqa⟩ : ∃ q, q = sumIs va := ⟨_, rfl⟩
        obtain ⟨qb, hqb⟩ : ∃ q, q = sumIs vo := ⟨_, rfl⟩
        rw [← ha, ← hqa] at SV FV
        rw [← hb, ← hqb] at SW FV
        rw [← ha] at SB
        rw [SV.out]
        clear ha hb hqa hqb
        obtain ⟨_, c2⟩ := CO.out _ _ F2R.out
        go_wp2_with fail
        refine (VO.out w8 BB.out).mono ?_
        rintro e w9 ⟨v9, rfl, sv9, bb⟩
        have BZ := Lib.hid (BB.out.trans (bb.mono BB.out.size))
        have SO := sum_c vo v9 w9 sv9 (by have := VOL.out; omega)
        clear bb sv9 c2
        go_wp2_with fail
        refine SO.mono ?_
        rintro e w10 ⟨rfl, rfl⟩
        clear SO
        rw [SW.out]
        have HE9 := Lib.hid (HE.out.below BZ.out)
        cases qa with
        | false =>
          have RW : Hid (R = (0, 5, none)) := by show _ = _; rw [RV.out, FV.out]; rfl
          have q4 : w9.cell? ⟨2, 0, none⟩ = some (.iface 250 (.pointer (some (E 4)))) := HE9.out 4 (by omega)
          have QE := Lib.hid q4
          clear q4
          go_upto_region 13 with fail
          refine wp_region_held_drew (S := (fun w' => Below w9.heap.size w9 w')) (by kernel_rfl) (Below.drew (Below.refl _ _)) (fun hHeld => ?_)
          generalize hwd : w9.drew = wd at  hHeld ⊢
          clear hwd
          refine held_take (i := 0) (v := (.iface 250 (.pointer (some (E 4))))) rfl (by kernel_rfl) (by kernel_rfl) (by kernel_rfl) (fun _ _ _ h => h) (yieldsIf_load_one (by rfl) 37 _ rfl 2 (0) rfl _ _ (fun w' hw' => cell_below QE.out hw') Tryz.underlying37 rfl) hHeld ?_
          go_frame
          refine held_take (i := 1) (v := (.int .u64 0)) rfl (by kernel_rfl) (by kernel_rfl) (by kernel_rfl) (fun _ _ _ h => h) (Or.inl ⟨by rfl, fun w' _ => by kernel_rfl⟩) hHeld ?_
          go_frame
          refine held_take (i := 2) (v := (.iface 250 (.pointer (some (E 4))))) rfl (by kernel_rfl) (by kernel_rfl) (by kernel_rfl) (fun _ _ _ h => h) (Or.inl ⟨by rfl, fun w' _ => by kernel_rfl⟩) hHeld ?_
          go_frame
          refine wpAnyH_done (by kernel_rfl) ?_ _
          have BY := Lib.hid (BZ.out.trans (hHeld.mono BZ.out.size))
          clear hHeld
          go_wp2_with fail
          go_ret2
          exact ⟨_, by rw [RW.out]; rfl, by rw [RW.out]; exact .inl ⟨rfl, rfl⟩, BY.out⟩
        | true =>
          cases qb with
          | false =>
            have RW : Hid (R = (0, 5, none)) := by show _ = _; rw [RV.out, FV.out]; rfl
            have q4 : w9.cell? ⟨2, 0, none⟩ = some (.iface 250 (.pointer (some (E 4)))) := HE9.out 4 (by omega)
            have QE := Lib.hid q4
            clear q4
            go_upto_region 13 with fail
            refine wp_region_held_drew (S := (fun w' => Below w9.heap.size w9 w')) (by kernel_rfl) (Below.drew (Below.refl _ _)) (fun hHeld => ?_)
            generalize hwd : w9.drew = wd at  hHeld ⊢
            clear hwd
            refine held_take (i := 0) (v := (.iface 250 (.pointer (some (E 4))))) rfl (by kernel_rfl) (by kernel_rfl) (by kernel_rfl) (fun _ _ _ h => h) (yieldsIf_load_one (by rfl) 37 _ rfl 2 (0) rfl _ _ (fun w' hw' => cell_below QE.out hw') Tryz.underlying37 rfl) hHeld ?_
            go_frame
            refine held_take (i := 1) (v := (.int .u64 0)) rfl (by kernel_rfl) (by kernel_rfl) (by kernel_rfl) (fun _ _ _ h => h) (Or.inl ⟨by rfl, fun w' _ => by kernel_rfl⟩) hHeld ?_
            go_frame
            refine held_take (i := 2) (v := (.iface 250 (.pointer (some (E 4))))) rfl (by kernel_rfl) (by kernel_rfl) (by kernel_rfl) (fun _ _ _ h => h) (Or.inl ⟨by rfl, fun w' _ => by kernel_rfl⟩) hHeld ?_
            go_frame
            refine wpAnyH_done (by kernel_rfl) ?_ _
            have BY := Lib.hid (BZ.out.trans (hHeld.mono BZ.out.size))
            clear hHeld
            go_wp2_with fail
            go_ret2
            exact ⟨_, by rw [RW.out]; rfl, by rw [RW.out]; exact .inl ⟨rfl, rfl⟩, BY.out⟩
          | true =>
            by_cases hab : a < b
            · have RW : Hid (R = (0, 17, none)) := by show _ = _; rw [RV.out, FV.out, if_neg (by decide), if_pos hab]
              have l1 : (a : Int) < (b : Int) := by omega
              clear hab
              have q16 : w9.cell? ⟨8, 0, none⟩ = some (.iface 250 (.pointer (some (E 16)))) := HE9.out 16 (by omega)
              have QE := Lib.hid q16
              clear q16
              go_upto_region 15 with fail
              refine wp_region_held_drew (S := (fun w' => Below w9.heap.size w9 w')) (by kernel_rfl) (Below.drew (Below.refl _ _)) (fun hHeld => ?_)
              generalize hwd : w9.drew = wd at  hHeld ⊢
              clear hwd
              refine held_take (i := 0) (v := (.iface 250 (.pointer (some (E 16))))) rfl (by kernel_rfl) (by kernel_rfl) (by kernel_rfl) (fun _ _ _ h => h) (yieldsIf_load_one (by rfl) 37 _ rfl 8 (0) rfl _ _ (fun w' hw' => cell_below QE.out hw') Tryz.underlying37 rfl) hHeld ?_
              go_frame
              refine held_take (i := 1) (v := (.int .u64 0)) rfl (by kernel_rfl) (by kernel_rfl) (by kernel_rfl) (fun _ _ _ h => h) (Or.inl ⟨by rfl, fun w' _ => by kernel_rfl⟩) hHeld ?_
              go_frame
              refine held_take (i := 2) (v := (.iface 250 (.pointer (some (E 16))))) rfl (by kernel_rfl) (by kernel_rfl) (by kernel_rfl) (fun _ _ _ h => h) (Or.inl ⟨by rfl, fun w' _ => by kernel_rfl⟩) hHeld ?_
              go_frame
              refine wpAnyH_done (by kernel_rfl) ?_ _
              have BY := Lib.hid (BZ.out.trans (hHeld.mono BZ.out.size))
              clear hHeld
              go_wp2_with fail
              go_ret2
              exact ⟨_, by rw [RW.out]; rfl, by rw [RW.out]; exact .inl ⟨rfl, rfl⟩, BY.out⟩
            · have RW : Hid (R = (a - b, 0, none)) := by show _ = _; rw [RV.out, FV.out, if_neg (by decide), if_neg hab]
              have l1 : ¬ (a : Int) < (b : Int) := by omega
              have sb : IntKind.u64.wrap ((a : Int) - (b : Int)) = ((a - b : Nat) : Int) := by rw [IntKind.wrap_u64]; have := SB.out; omega
              go_wp2_with fail
              go_ret2
              exact ⟨_, by rw [RW.out]; rfl, by rw [RW.out]; exact .inl ⟨rfl, rfl⟩, BZ.out⟩
  · have q1 : ((nm : Int) != (n : Int)) = true := by simp; omega
    have RV : Hid (R = (0, 2, none)) := by show _ = _; rw [FE.out, if_pos hne]
    clear hne FE
    have HE1 := Lib.hid (HE.out.below B1.out)
    have qe : w1.cell? ⟨0, 0, none⟩ = some (.iface 250 (.pointer (some (E 1)))) := HE1.out 1 (by omega)
    have QE := Lib.hid qe
    clear qe
    go_upto_region 2 with fail
    refine wp_region_held_drew (S := (fun w' => Below w1.heap.size w1 w')) (by kernel_rfl) (Below.drew (Below.refl _ _)) (fun hHeld => ?_)
    generalize hwd : w1.drew = wd at  hHeld ⊢
    clear hwd
    refine held_take (i := 0) (v := (.iface 250 (.pointer (some (E 1))))) rfl (by kernel_rfl) (by kernel_rfl) (by kernel_rfl) (fun _ _ _ h => h) (yieldsIf_load_one (by rfl) 37 _ rfl 0 (0) rfl _ _ (fun w' hw' => cell_below QE.out hw') Tryz.underlying37 rfl) hHeld ?_
    go_frame
    refine held_take (i := 1) (v := (.int .u64 0)) rfl (by kernel_rfl) (by kernel_rfl) (by kernel_rfl) (fun _ _ _ h => h) (Or.inl ⟨by rfl, fun w' _ => by kernel_rfl⟩) hHeld ?_
    go_frame
    refine held_take (i := 2) (v := (.iface 250 (.pointer (some (E 1))))) rfl (by kernel_rfl) (by kernel_rfl) (by kernel_rfl) (fun _ _ _ h => h) (Or.inl ⟨by rfl, fun w' _ => by kernel_rfl⟩) hHeld ?_
    go_frame
    refine wpAnyH_done (by kernel_rfl) ?_ _
    have BZ := Lib.hid (B1.out.trans (hHeld.mono B1.out.size))
    clear hHeld
    go_wp2_with fail
    go_ret2
    exact ⟨_, by rw [RV.out]; rfl, by rw [RV.out]; exact .inl ⟨rfl, rfl⟩, BZ.out⟩
end Go.Proofs.YtckkcpplanfmhaaGreatDoor.Sha

/-
  Stores into one part of a block's box; the zero block; one transaction in a row. No conditions beyond those that each states.
-/
namespace Go.Proofs.YtckkcpplanfmhaaGreatDoor.Sha
open Go Go.RowKit
theorem info_txc : (Tryz.prog.info? 27).map (fun i => (i.zero, i.size, i.bytes)) = some (some (.agg [nV 0, .slice none 0 0, .slice none 0 0, nV 0].toArray), 4, 64) := by kernel_rfl
section
variable {ops : Array Oper} {rest : List Oper} {op : Oper} {a : Act} {w : World} {Q : Exit → Act → World → Prop} {g : Nat} {h : THd} {tv : Value}
theorem st_blroot (hgd : op.guard = none) (x y : Operand) (ho : op.op = .store 44 x y) (hx : a.eval x = .pointer (some ⟨g, 33, none⟩)) (p : List UInt8) (hp : p.length = 32) (hy : a.eval y = .agg (p.map bV).toArray) (hh : HdOk h) (k : BlBox w g h tv)
    (hK : ∀ w', BlBox w' g { h with root := p } tv → w.grownBy w' (some g) → wpList Tryz.prog ops Q rest (a.put op.dst undef) w') : wpList Tryz.prog ops Q (op :: rest) a w := by
  refine wpList_store_part hgd 44 x y ho g 33 (nV h.ver :: h.prev.map bV) (h.root.map bV) [nV h.time, nV h.work, nV h.nonce, tv] (p.map bV) 71 (.agg (p.map bV).toArray) hx hy rfl (by simp [hh.2.1]) (by simp [hp, hh.2.2.1]) (by rw [k.row]; simp [blL, hdL]) (by rw [List.length_map, hp]; kernel_rfl) (bV_one' p) ?_
  intro w' q1 q2
  exact hK w' ⟨by rw [q1]; simp [blL, hdL]⟩ q2
end
/-- A row of one. -/
theorem txsAt_one {w : World} {g : Nat} {t : TTx} {iv ov : Value} {fr : Nat × Nat} (h : w.heap[g]? = some (.cells (txL t iv ov).toArray 27 fr)) (ht : TxAt w (.agg (txL t iv ov).toArray) t) : TxsAt w (.slice (some ⟨g, 0, none⟩) 1 1) [t] := by
  obtain ⟨h0, iv', ov', e, h1, h2⟩ := ht
  have e : txL t iv ov = txL t iv' ov' := by simpa using e
  refine ⟨_, _, rfl, Nat.le_refl _, fun _ => ⟨g, 0, rfl, fun i u hu => ?_⟩⟩
  obtain ⟨rfl, rfl⟩ : i = 0 ∧ t = u := by
    cases i with
    | zero => exact ⟨rfl, by simpa using hu⟩
    | succ i => simp at hu
  refine ⟨h0, iv', ov', fun j v hj => ?_, h1, h2⟩
  rw [cell_of_row _ _ _ _ _ _ h, List.getElem?_toArray, e]
  simpa using hj
end Go.Proofs.YtckkcpplanfmhaaGreatDoor.Sha

/-
  A map of any keys and values: what is found, put (a new key, or one that is there), taken away, counted; places of coins, and digests, as keys. Conditions: the keys are as the model has them.
-/
namespace Go.Proofs.YtckkcpplanfmhaaGreatDoor.Sha
open Go Go.RowKit Go.MapKept
open Go.ChangeMaps (setBlock heap_setBlock_same heap_setBlock_other)
/-- What a map's types have to give: keys a of α as values kf a, values b of β as vf b; z: the zero value. -/
structure MTy (α β : Type) (kT vT mT : TypeId) (kf : α → Value) (vf : β → Value) (ok : α → Prop) (z : β) : Prop where
  law : WideMaps.KeyLaw Tryz.prog kT
  und : Tryz.prog.underlying mT = some (.map kT vT)
  key : ∀ a, ok a → ∃ l, keyOf Tryz.prog kT (kf a) = some l
  inj : ∀ a b, kf a = kf b → a = b
  zero : ∀ w, (zeroValue vT).run Tryz.prog w = .ok (vf z) w
/-- Block b is a map of these entries. -/
def MpAt {α β : Type} (kf : α → Value) (vf : β → Value) (ok : α → Prop) (w : World) (b : Nat) (l : List (α × β)) : Prop :=
  ∃ es clock, w.heap[b]? = some (.map es clock) ∧ Stamped es clock ∧ es.toList.map kvE = l.map (fun x => (kf x.1, vf x.2)) ∧ ∀ x ∈ l, ok x.1
section
variable {α β : Type} [DecidableEq α]
variable {kT vT mT : TypeId} {kf : α → Value} {vf : β → Value} {ok : α → Prop} {z : β} {w : World} {b : Nat} {l : List (α × β)}
omit [DecidableEq α] in
/-- No key has two values. -/
theorem MpAt.apart (h : MpAt kf vf ok w b l) : l.Pairwise (fun x y => x.1 ≠ y.1) := by
  obtain ⟨es, clock, _, hs, he, _⟩ := h
  have h1 := ((stamped_iff es clock).1 hs).2.2
  have h2 : (es.toList.map kvE).Pairwise (fun p q => p.1 ≠ q.1) := by
    rw [List.pairwise_map]
    exact h1
  rw [he, List.pairwise_map] at h2
  exact h2.imp (fun {x y} hne e => hne (by show kf _ = kf _; rw [e]))
omit [DecidableEq α] in
theorem MpAt.lt (h : MpAt kf vf ok w b l) : b < w.heap.size := by
  obtain ⟨_, _, hb, _⟩ := h
  exact (Array.getElem?_eq_some_iff.1 hb).1
omit [DecidableEq α] in
theorem MpAt.kps {F : Nat → Prop} {w' : World} (h : MpAt kf vf ok w b l) (hk : Kps F w w') (hf : F b) : MpAt kf vf ok w' b l := by
  obtain ⟨es, clock, hb, h2⟩ := h
  exact ⟨es, clock, row_kps hb hk hf, h2⟩
omit [DecidableEq α] in
theorem MpAt.below {w' : World} (h : MpAt kf vf ok w b l) (hb : Below w.heap.size w w') : MpAt kf vf ok w' b l := by
  obtain ⟨es, clock, h1, h2⟩ := h
  exact ⟨es, clock, row_below h1 hb, h2⟩
omit [DecidableEq α] in
/-- A map's block is no block of cells. -/
theorem MpAt.ne (h : MpAt kf vf ok w b l) {x : Nat} {cs : Array Value} {T : TypeId} {fr : Nat × Nat} (hx : w.heap[x]? = some (.cells cs T fr)) : x ≠ b := by
  rintro rfl
  obtain ⟨es, clock, h1, _⟩ := h
  rw [h1] at hx
  cases hx
end
end Go.Proofs.YtckkcpplanfmhaaGreatDoor.Sha

/-
  Digests as keys of maps; rows of one's own beside boxes of other types and beside maps. No conditions.
-/
namespace Go.Proofs.YtckkcpplanfmhaaGreatDoor.Sha
open Go Go.RowKit
def hK (h : List UInt8) : Value := .agg (h.map bV).toArray
theorem own_kpsB {F : Nat → Prop} {w w' : World} {base n size : Nat} {e : TypeId} {v : Value} {xs : List Value} (h : w.ownsRow base e size v n xs) (hk : Kps F w w') (hf : ∀ g, v.ownBlock = some g → F g) : w'.ownsRow base e size v n xs := by
  refine ⟨h.1, ?_⟩
  rcases h.2 with hn | ⟨g, cap, cur, rfl, hb, hg, rest⟩
  · exact .inl hn
  · exact .inr ⟨g, cap, cur, rfl, hb, row_kps hg hk (hf g rfl), rest⟩
theorem own_ne' {w : World} {base n k g : Nat} {T T' : TypeId} {v : Value} {xs : List Value} {cs : Array Value} {fr : Nat × Nat} (h : w.ownsRow base T k v n xs) (hg : w.heap[g]? = some (.cells cs T' fr)) (hT : T ≠ T') : v.ownBlock ≠ some g := fun e => by
  obtain ⟨c, fz, hc⟩ := Lib.ownsRow_kind h g e
  rw [hc] at hg
  exact hT (by cases hg; rfl)
end Go.Proofs.YtckkcpplanfmhaaGreatDoor.Sha

/-
  The way of package undo: a set, and what was done to it. A coin is spent, or added, on the way. The set, the way and new memory turn, no more. Conditions: the set and the way lie where the pointers say; places, coins as the model has them; the errors are there.
-/
namespace Go.Proofs.YtckkcpplanfmhaaGreatDoor.Sha
open Go Go.RowKit
/-- What was done: a coin, and whether it was spent. -/
def stepL (s : TSp × Bool) : List Value := spL s.1 ++ [.bool s.2]
theorem stepL_length {s : TSp × Bool} (h : SpOk s.1) : (stepL s).length = 69 := by simp [stepL, spL_length h]
theorem own_ne {w : World} {base n k g : Nat} {T T' : TypeId} {v : Value} {xs : List Value} {cs : Array Value} {fr : Nat × Nat} (h : w.ownsRow base T k v n xs) (hg : w.heap[g]? = some (.cells cs T' fr)) (hT : T ≠ T') : v.ownBlock ≠ some g := by
  rcases h.2 with ⟨rfl, _⟩ | ⟨b, cap, cur, rfl, _, hc, _⟩
  · exact fun e => by cases e
  · intro e
    have e' : b = g := Option.some.inj e
    rw [e', hg] at hc
    exact hT (Obj.cells.inj (Option.some.inj hc)).2.1.symm
theorem SetAt.own_ne {w : World} {a : Nat} {m : Option Nat} {l : List TSp} {base n k : Nat} {T : TypeId} {v : Value} {xs : List Value} (hs : SetAt w a m l) (h : w.ownsRow base T k v n xs) (hT : T ≠ 76) : ∀ q, v.ownBlock = some q → q ≠ a ∧ m ≠ some q := by
  intro q hq
  rcases h.2 with ⟨rfl, _⟩ | ⟨b, cap, cur, rfl, _, hc, _⟩
  · cases hq
  · have e' : b = q := Option.some.inj hq
    rw [← e']
    exact ⟨hs.boxne hT hc, hs.rowne hc⟩
/-- The way, since a world w0: its box, what was done (the box's row, vb, and the newest one, v), the set. -/
structure WyG (w0 : World) (a : Nat) (m0 : Option Nat) (gw : Nat) (w : World) (m : Option Nat) (l : List TSp) (vb v : Value) (st : List (TSp × Bool)) : Prop where
  box : w.heap[gw]? = some (.cells #[.pointer (some ⟨a, 0, none⟩), vb] 167 (0, 0))
  row : RwOwn 69 203 w0.heap.size w v (st.map stepL)
  set : SetAt w a m l
  gw : w0.heap.size ≤ gw
  hm : m = m0 ∨ ∃ b, m = some b ∧ w0.heap.size ≤ b
  kps : Kps (fun j => j ≠ a ∧ m0 ≠ some j) w0 w
section
variable {w0 w w' : World} {a gw : Nat} {m0 m m' : Option Nat} {l l' : List TSp} {vb v v' : Value} {st : List (TSp × Bool)}
theorem WyG.below (h : WyG w0 a m0 gw w m l vb v st) (hb : Below w.heap.size w w') : WyG w0 a m0 gw w' m l vb v st := ⟨row_below h.box hb, h.row.keep hb, h.set.below hb, h.gw, h.hm, h.kps.trans (Kps.new hb)⟩
theorem WyG.ptr (h : WyG w0 a m0 gw w m l vb v st) : w.cell? ⟨gw, 0, none⟩ = some (.pointer (some ⟨a, 0, none⟩)) := by rw [cell_of_row _ _ _ _ _ _ h.box]; rfl
/-- A row of another kind is no part of it. -/
theorem WyG.apart (h : WyG w0 a m0 gw w m l vb v st) {g : Nat} {cs : Array Value} {T : TypeId} {fr : Nat × Nat} (hg : w.heap[g]? = some (.cells cs T fr)) (h1 : T ≠ 76) : g ≠ a ∧ m ≠ some g := ⟨h.set.boxne h1 hg, h.set.rowne hg⟩
theorem WyG.push (h : WyG w0 a m0 gw w m l vb v st) {x : TSp × Bool} (hx : SpOk x.1) (ho : w'.ownsRow w0.heap.size 203 69 v' ((st.map stepL).length + 1) ((st.map stepL).flatten ++ stepL x)) (hg : w.grownBy w' v.ownBlock) : WyG w0 a m0 gw w' m l vb v' (st ++ [x]) := by
  have h0 := h.kps.size
  have hr := RwOwn.push h.row.2 (stepL_length hx) ho
  have hne := own_ne h.row.1 h.box (by decide)
  have hs := h.set.own_ne h.row.1 (by decide)
  have hk : Kps (fun j => some j ≠ v.ownBlock) w w' := Kps.grown hg fun k _ hk => hk
  refine ⟨row_kps h.box hk (fun e => hne e.symm), by rw [List.map_append]; exact hr, h.set.kps hk (fun e => (hs a e.symm).1 rfl) (fun b hb e => (hs b e.symm).2 hb), h.gw, h.hm, ⟨hk.os.trans h.kps.os, hk.tape.trans h.kps.tape, hk.output.trans h.kps.output, Nat.le_trans h0 hk.size, fun k hlt hf => (hk.block k (Nat.lt_of_lt_of_le hlt h0) (fun e => ?_)).trans (h.kps.block k hlt hf)⟩⟩
  have := (h.row.1.lt k e.symm).1
  omega
theorem WyG.store (h : WyG w0 a m0 gw w m l vb v st) (hb : w'.heap[gw]? = some (.cells #[.pointer (some ⟨a, 0, none⟩), v] 167 (0, 0))) (hg : w.grownBy w' (some gw)) : WyG w0 a m0 gw w' m l v v st := by
  have h0 := h.kps.size
  have hne := own_ne h.row.1 h.box (by decide)
  have hk : Kps (fun j => j ≠ gw) w w' := Kps.grown hg fun k _ hk e => hk (Option.some.inj e)
  obtain ⟨n1, n2⟩ := h.apart h.box (by decide)
  refine ⟨hb, ⟨⟨h.row.1.1, ?_⟩, h.row.2⟩, h.set.kps hk (fun e => n1 e.symm) (fun b hb e => n2 (by rw [hb, e])), h.gw, h.hm, ⟨hk.os.trans h.kps.os, hk.tape.trans h.kps.tape, hk.output.trans h.kps.output, Nat.le_trans h0 hk.size, fun k hlt hf => (hk.block k (Nat.lt_of_lt_of_le hlt h0) (fun e => ?_)).trans (h.kps.block k hlt hf)⟩⟩
  · rcases h.row.1.2 with hn | ⟨g, cap, cur, rfl, hb, hg, rest⟩
    · exact .inl hn
    · exact .inr ⟨g, cap, cur, rfl, hb, row_kps hg hk (fun e => hne (by rw [← e]; rfl)), rest⟩
  · have := h.gw
    omega
end
theorem EC.kps {w w' : World} {E : Nat → Addr} {F : Nat → Prop} (h : EC w E) (hk : Kps F w w') (h1 : F 2) (h2 : F 3) (h3 : F 5) : EC w' E := by
  refine ⟨?_, ?_, ?_⟩
  · rw [World.cell?_of_block (hk.block _ (World.block_lt_of_cell? _ _ h.value) h1)]; exact h.value
  · rw [World.cell?_of_block (hk.block _ (World.block_lt_of_cell? _ _ h.twice) h2)]; exact h.twice
  · rw [World.cell?_of_block (hk.block _ (World.block_lt_of_cell? _ _ h.missing) h3)]; exact h.missing
end Go.Proofs.YtckkcpplanfmhaaGreatDoor.Sha

/-
  What a transaction does to a set's coins, as plain mathematics; what was done, step by step; which memory stays while the way turns; which inputs spend. No conditions beyond those that each states.
-/
namespace Go.Proofs.YtckkcpplanfmhaaGreatDoor.Sha
open Go Go.RowKit
def ptOf (x : TIn) : TPt := ⟨x.h, x.n⟩
/-- What was done leads from l0 to l. -/
inductive Tr (l0 : List TSp) : List (TSp × Bool) → List TSp → Prop
  | nil : Tr l0 [] l0
  | spend {st : List (TSp × Bool)} {l : List TSp} {p : TPt} {c : TMn} (h : Tr l0 st l) (hc : getC l p = some c) : Tr l0 (st ++ [(⟨p, c⟩, true)]) (delC l p)
  | add {st : List (TSp × Bool)} {l : List TSp} {p : TPt} {c : TMn} (h : Tr l0 st l) (hc : addR l p c = 0) : Tr l0 (st ++ [(⟨p, c⟩, false)]) (l ++ [⟨p, c⟩])
/-- Memory of other kinds stays. -/
def Stand (w w' : World) : Prop := w.heap.size ≤ w'.heap.size ∧ ∀ (g : Nat) (cs : Array Value) (T : TypeId) (fr : Nat × Nat), T ≠ 76 → 203 ≠ T → 167 ≠ T → w.heap[g]? = some (.cells cs T fr) → w'.heap[g]? = some (.cells cs T fr)
theorem Stand.refl (w : World) : Stand w w := ⟨Nat.le_refl _, fun _ _ _ _ _ _ _ h => h⟩
theorem Stand.trans {w w1 w2 : World} (h : Stand w w1) (k : Stand w1 w2) : Stand w w2 := ⟨Nat.le_trans h.1 k.1, fun g cs T fr a b c hg => k.2 g cs T fr a b c (h.2 g cs T fr a b c hg)⟩
theorem Stand.below {w w1 w2 : World} (h : Stand w w1) (hb : Below w1.heap.size w1 w2) : Stand w w2 := h.trans ⟨hb.size, fun _ _ _ _ _ _ _ hg => row_below hg hb⟩
theorem Stand.box {w w1 : World} (h : Stand w w1) {g : Nat} {cs : Array Value} {T : TypeId} {fr : Nat × Nat} (hg : w.heap[g]? = some (.cells cs T fr)) (h1 : T ≠ 76) (h2 : 203 ≠ T) (h3 : 167 ≠ T) : w1.heap[g]? = some (.cells cs T fr) := h.2 g cs T fr h1 h2 h3 hg
theorem Stand.row {w w1 : World} (h : Stand w w1) {base k : Nat} {T : TypeId} {u : Value} {L : List (List Value)} (hr : RwOwn k T base w u L) (h1 : T ≠ 76) (h2 : 203 ≠ T) (h3 : 167 ≠ T) : RwOwn k T base w1 u L := by
  refine ⟨⟨hr.1.1, ?_⟩, hr.2⟩
  rcases hr.1.2 with hn | ⟨b, cap, cur, rfl, hb, hc, rest⟩
  · exact .inl hn
  · exact .inr ⟨b, cap, cur, rfl, hb, h.box hc h1 h2 h3, rest⟩
theorem Stand.grown {w w1 w2 : World} (h : Stand w w1) {q : Option Nat} (hg : w1.grownBy w2 q) (hq : ∀ k, q = some k → w.heap.size ≤ k) : Stand w w2 :=
  ⟨Nat.le_trans h.1 hg.size, fun g cs T fr a b c hr => row_far (h.2 g cs T fr a b c hr) hg (fun e => by
    have h1 := (Array.getElem?_eq_some_iff.1 hr).1
    have := hq g e
    omega)⟩
end Go.Proofs.YtckkcpplanfmhaaGreatDoor.Sha

/-
  The statements' own digests of transactions. New memory; nothing that was there turns. Condition: transactions of a few inputs and outputs that lie in memory.
-/
namespace Go.Proofs.YtckkcpplanfmhaaGreatDoor.Sha
open Go Go.RowKit
set_option maxHeartbeats 1000000 in
set_option maxRecDepth 100000 in
theorem rid_any (t : TTx) (v : Value) (w : World) (h1 : TxAt w v t) (hs : TxSmall t) :
    Calls Tryz.prog 25 #[v] w fun e w' => e = .returned (.agg ((sha (sha (txB t))).map bV).toArray) ∧ Below w.heap.size w w' := by
  have H1 := Lib.hid h1
  obtain ⟨_, iv, ov, rfl, h2, h3⟩ := h1
  have TL : Hid ((txB t).length ≤ 35184372088832) := hs.len
  have TB : Hid (∀ W, Below w.heap.size w W → Calls Tryz.prog 63 #[.agg (txL t iv ov).toArray] W fun e w' => ∃ v', e = .returned v' ∧ w'.ownsRow W.heap.size 5 1 v' (txB t).length ((txB t).map bV) ∧ Below W.heap.size W w') :=
    fun W hW => rtxb_any t _ W (H1.out.below hW) hs.ins hs.outs (Nat.le_trans hs.2.1 (by omega)) (Nat.le_trans hs.2.2.1 (by omega))
  have LC' : Hid ((txL t iv ov).toArray.size = 4) := rfl
  obtain ⟨ct, hct⟩ : ∃ ct, ct = txL t iv ov := ⟨_, rfl⟩
  rw [← hct] at TB LC' ⊢
  obtain ⟨dg, hdg⟩ : ∃ dg, dg = ((sha (sha (txB t))).map bV).toArray := ⟨_, rfl⟩
  have HOne : Hid (dg.all (·.oneCell') = true) := by show _ = _; rw [hdg]; exact bV_one _
  have HLen : Hid (dg.size = 32) := by show _ = _; rw [hdg]; simp [sha_length]
  have TW : Hid (∀ W sp n cap, SrcB W (.slice sp n cap) (txB t) → n ≤ 35184372088832 → Calls Tryz.prog 62 #[.slice sp n cap] W fun e w' => e = .returned (.agg dg) ∧ Below W.heap.size W w') := fun W sp n cap h1 h2 => by rw [hdg]; exact ref_twice (txB t) sp n cap W h1 h2
  rw [← hdg]
  clear hdg hct h2 h3
  go_enter Tryz.func25, Tryz.ntmps25
  go_upto_region 1 with fail
  have f1 := row_below (heap_alloc_new w (.cells ct.toArray 27 (0, 0))) ((Below.refl _ _).alloc (Nat.le_refl _) (.cells (List.replicate 32 (bV 0)).toArray 44))
  have f2 := heap_alloc_new (w.alloc (.cells ct.toArray 27 (0, 0))) (.cells (List.replicate 32 (bV 0)).toArray 44)
  have b1 := ((Below.refl w.heap.size w).alloc (Nat.le_refl _) (.cells ct.toArray 27 (0, 0))).alloc (by simp) (.cells (List.replicate 32 (bV 0)).toArray 44)
  rw [World.size_alloc] at f2
  generalize hw1 : World.alloc _ _ = w1
  have e1 : (w.alloc (.cells ct.toArray 27 (0, 0))).alloc (.cells (List.replicate 32 (bV 0)).toArray 44) = w1 := hw1
  rw [e1] at f1 f2 b1
  have F1 := Lib.hid f1
  have F2 := Lib.hid f2
  have B1 := Lib.hid b1
  clear f1 f2 b1 hw1 e1
  go_wp2_with ((with_reducible show wpList _ _ _ _ _ _); refine wpList_load_row rfl 27 (.tmp 1) rfl w.heap.size rfl 27 ct.toArray (0, 0) _ F1.out Tryz.underlying27 rfl (by rw [LC'.out]; kernel_rfl) ?_; go_frame)
  refine (TB.out w1 B1.out).mono ?_
  rintro e w2 ⟨v2, rfl, ho, hb2⟩
  have S2 := Lib.hid (src_own ho)
  obtain ⟨s2, n2, c2, rfl, hn2, _⟩ := (src_own ho).shape'
  have HN : Hid (n2 ≤ 35184372088832) := by show _ ≤ _; rw [hn2]; exact TL.out
  have B2 := Lib.hid (B1.out.trans (hb2.mono B1.out.size))
  have F2 := Lib.hid (row_below F2.out hb2)
  clear ho hb2 hn2
  go_wp2_with fail
  refine (TW.out w2 _ _ _ S2.out HN.out).mono ?_
  rintro e w3 ⟨rfl, hb3⟩
  have B3 := Lib.hid (B2.out.trans (hb3.mono B2.out.size))
  have F3 := Lib.hid (row_below F2.out hb3)
  clear hb3
  go_wp2_with ((with_reducible show wpList _ _ _ _ _ _); refine wpList_store_row rfl 44 (.tmp 2) (.tmp 5) rfl (w.heap.size + 1) dg rfl rfl 44 _ F3.out (by rw [HLen.out]; kernel_rfl) (by rw [HLen.out]; rfl) HOne.out ?_; go_frame)
  refine bodyPost_ret (results_cell_row rfl _ _ (w.heap.size + 1) 44 dg (0, 0) (.array 32 5) rfl (setRow_heap _ _ _ _ _ _ F3.out) Tryz.underlying44 rfl (by rw [HLen.out]; kernel_rfl)) rfl ⟨rfl, below_setRow B3.out (Nat.le_succ _) _⟩
def RiInv (n : Nat) (l : List TTx) (w1 : World) (vb vi : Value) (wr : World) : Prop :=
  ∃ (k : Nat) (vq : Value), vq = vb ∧ k ≤ n ∧ vi = .int .i64 k ∧ HsOwn w1.heap.size wr vq (idsL (l.take k)) ∧ Below w1.heap.size w1 wr
set_option maxHeartbeats 2000000 in
set_option maxRecDepth 100000 in
theorem rids_any (l : List TTx) (v : Value) (w : World) (h1 : TxsAt w v l) (hs : ∀ t ∈ l, TxSmall t) (hl : l.length ≤ 1000) :
    Calls Tryz.prog 49 #[v] w fun e w' => ∃ v', e = .returned v' ∧ HsOwn w.heap.size w' v' (idsL l) ∧ Below w.heap.size w w' := by
  obtain ⟨i0, hi, hz0, hz1, hz2⟩ := info_parts info_hash
  obtain ⟨sp, cap, rfl⟩ := h1.shape
  obtain ⟨n, hn⟩ : ∃ n, n = l.length := ⟨_, rfl⟩
  rw [← hn] at h1 ⊢
  have HT := Lib.hid h1
  have NN := Lib.hid hn
  have TS := Lib.hid hs
  have bn : n ≤ 1000 := by rw [hn]; exact hl
  clear h1 hn hs hl
  go_enter Tryz.func49, Tryz.ntmps49
  go_wp2_with fail
  go_loopw [3, 4] (fun vb vi wr => RiInv n l w vb vi wr) (fun _ i _ => n - (intOf i).toNat)
  case atStart => exact ⟨0, _, rfl, by omega, rfl, HsOwn.nil _ _, Below.refl _ _⟩
  case round =>
    obtain ⟨k, vb, rfl, hk, rfl, HO, B⟩ := hrel
    have HO := Lib.hid HO
    have B := Lib.hid B
    by_cases hlt : k < n
    · obtain ⟨b, o, hs1, _, hg⟩ := HT.out.get (by omega)
      obtain ⟨t, hgt⟩ : ∃ t, l[k]? = some t := ⟨_, List.getElem?_eq_getElem (by have := NN.out; omega)⟩
      obtain ⟨iv, ov, hr, hta⟩ := hg k t hgt
      have LC : Hid ((txL t iv ov).length = 4) := rfl
      obtain ⟨ct, hct⟩ : ∃ ct, ct = txL t iv ov := ⟨_, rfl⟩
      rw [← hct] at hr hta LC
      have R := Lib.hid (range_below hr B.out)
      obtain ⟨d, hd⟩ : ∃ d, d = sha (sha (txB t)) := ⟨_, rfl⟩
      have LD : Hid (d.length = 32) := by show _ = _; rw [hd]; exact sha_length _
      have LX : Hid ((d.map bV).length = 32) := by show _ = _; rw [List.length_map, LD.out]
      have IDC : Hid (Calls Tryz.prog 25 #[.agg ct.toArray] wr fun e w' => e = .returned (.agg (d.map bV).toArray) ∧ Below wr.heap.size wr w') := by
        rw [hd]
        exact rid_any t _ wr (hta.below B.out) (TS.out t (List.mem_of_getElem? hgt))
      have HTL : Hid ((idsL (l.take k)).length ≤ 1048576) := by show _ ≤ _; rw [idsL_length, List.length_take]; omega
      have GT := Lib.hid hgt
      have HD := Lib.hid hd
      have p0 : 0 ≤ (k : Int) := by omega
      have q0 : (k : Int) < (n : Int) := by omega
      subst hs1
      clear hg hgt hr hta hct hd
      go_wp2_with ((with_reducible show wpList _ _ _ _ _ _); (refine wpList_load_mid rfl 27 (.tmp 14) rfl b (o + k * 4) rfl ct _ R.out Tryz.underlying27 rfl (by rw [LC.out]; kernel_rfl) ?_; go_frame))
      refine IDC.out.mono ?_
      rintro e w6 ⟨rfl, hb6⟩
      have HO6 := Lib.hid (HO.out.keep hb6)
      have B6 := Lib.hid (B.out.trans (hb6.mono B.out.size))
      clear hb6 HO IDC
      go_wp2_with (first | ((with_reducible show wpList _ _ _ _ _ _); (refine wpList_slice_one rfl 120 44 (.tmp 16) rfl (d.map bV) rfl Tryz.underlying120 i0 _ hi hz0 (by rw [hz1, LX.out]) (by rw [LX.out]; omega) (by rw [LX.out]; omega) ?_; have nf := heap_alloc_new w6 (.cells ((d.map bV)).toArray 44 (0, 0)); have bb := (Below.refl w6.heap.size w6).alloc (Nat.le_refl _) (.cells ((d.map bV)).toArray 44 (0, 0)); obtain ⟨gn, hgn⟩ : ∃ g, g = w6.heap.size := ⟨_, rfl⟩; generalize hq : World.alloc _ _ = w7; have e2 : w6.alloc (.cells ((d.map bV)).toArray 44 (0, 0)) = w7 := hq; rw [e2] at nf bb; rw [← hgn] at nf ⊢; have NF := Lib.hid nf; have B7 := Lib.hid (B6.out.trans (bb.mono B6.out.size)); have HO7 := Lib.hid (HO6.out.keep bb); clear nf bb hq e2 hgn; go_frame)) | (at_builtin; refine wpList_append_own_at _ rfl _ _ 120 rfl w.heap.size 44 i0 (.agg (List.replicate 32 (bV 0)).toArray) 32 32 Tryz.underlying120 hi hz0 hz1 hz2 (by kernel_rfl) (by decide) vb _ (hsL (idsL (l.take k))) rfl HO7.out.1 ⟨gn, 0, none⟩ 1 1 (d.map bV) rfl (by rw [LX.out]) (hs_one NF.out) (bV_one' _) (by have := HTL.out; unfold maxLen; omega) (by have := HTL.out; omega) B7.out.size ?_; intro v8 w8 q1 q2 _ q4; have HO8 := Lib.hid (HsOwn.push (base := w.heap.size) HO7.out.2 LD.out q1); have B8 := Lib.hid (own_grown B7.out (Nat.le_refl _) B7.out.size HO7.out.1 q2); clear q1 q2 q4; go_frame))
      go_roundw
      case rel => exact ⟨k + 1, _, rfl, by omega, by go_num, by rw [idsL_snoc GT.out, ← HD.out]; exact HO8.out, B8.out⟩
      case measure => simp [intOf]; omega
    · have hkn : k = n := by omega
      have hge : ¬ (k : Int) < (n : Int) := by omega
      have HF : Hid (HsOwn w.heap.size wr vb (idsL l)) := by
        have h := HO.out
        rw [hkn, NN.out, List.take_length] at h
        exact h
      clear HO hkn
      go_wp2_with fail
      go_ret
      exact ⟨_, rfl, HF.out, B.out⟩
end Go.Proofs.YtckkcpplanfmhaaGreatDoor.Sha

/-
  Package block makes the first transaction of a block. New memory; nothing that was there turns. Condition: the bytes that are added lie where the slice says.
-/
namespace Go.Proofs.YtckkcpplanfmhaaGreatDoor.Sha
open Go Go.RowKit
theorem built_outl (v : Nat) (l : List UInt8) (hl : l.length = 32) : Tryz.prog.built 65 [(0, .int .u64 (v : Int)), (1, .agg (l.map bV).toArray)] = some (outL ⟨v, l⟩).toArray := by
  have hz : ∀ parts, Tryz.prog.built 65 parts = Instr.fill ([(0, 1), (1, 32)].toArray[·]?) (uV 0 :: List.replicate 32 (bV 0)).toArray parts := fun parts => by kernel_rfl
  have hm : (l.map bV).length = 32 := by simp [hl]
  rw [hz, fill_part _ 0 0 (.int .u64 (v : Int)) [uV v] _ _ rfl rfl (by simp), fill_part _ 1 1 (.agg (l.map bV).toArray) (l.map bV) _ _ rfl (by rw [hm]; rfl) (by rw [hm]; simp)]
  have e : ∀ A : List Value, A.length ≤ 33 → A.drop (1 + (l.map bV).length) = [] := fun A hA => List.drop_of_length_le (by rw [hm]; omega)
  rw [e _ (by simp), List.append_nil]
  rfl
/-- The first transaction of a block. -/
def firstX (h32 : Nat) (ex : List UInt8) : TIn := ⟨zH, 4294967295, leB h32 4 ++ ex, 4294967295⟩
def firstT (h32 val : Nat) (lock ex : List UInt8) : TTx := ⟨1, [firstX h32 ex], [⟨val, lock⟩], 0⟩
theorem firstX_ok {h32 : Nat} (ex : List UInt8) (_ : h32 ≤ 4294967295) : InOk (firstX h32 ex) := ⟨zH_length, by show 4294967295 ≤ _; omega, by show 4294967295 ≤ _; omega⟩
end Go.Proofs.YtckkcpplanfmhaaGreatDoor.Sha

/-
  Package block makes the block that each chain begins with. New memory; nothing that was there turns. Condition: the table is there.
-/
namespace Go.Proofs.YtckkcpplanfmhaaGreatDoor.Sha
open Go Go.RowKit
def startH : THd := ⟨1, zH, zH, 1000, 1, 0⟩
def startT : TTx := firstT 0 0 (sha []) []
/-- The block that each chain begins with, its root not yet set. -/
def startX0 : TBlk := ⟨startH, [startT]⟩
def startX : TBlk := ⟨{ startH with root := blRoot startX0 }, [startT]⟩
theorem startH_ok : HdOk startH := ⟨by decide, rfl, rfl, by decide, by decide, by decide⟩
theorem startX_ok : HdOk startX.head := ⟨by decide, rfl, blRoot_length startX0, by decide, by decide, by decide⟩
theorem firstT_came {h32 val : Nat} {lock ex : List UInt8} (h1 : h32 ≤ 4294967295) (hv : val ≤ 18446744073709551615) (hl : lock.length = 32) (he : ex.length ≤ 99000) : TxSmall (firstT h32 val lock ex) := by
  refine ⟨⟨⟨by show 1 ≤ _; omega, by show 0 ≤ _; omega⟩, ?_, ?_, ?_, by simp [firstT], by simp [firstT]⟩, by simp [firstT], by simp [firstT], ?_⟩
  · intro y hy
    simp only [firstT, List.mem_singleton] at hy
    rw [hy]
    exact firstX_ok ex h1
  · intro y hy
    simp only [firstT, List.mem_singleton] at hy
    rw [hy]
    exact ⟨hl, hv⟩
  · intro y hy
    simp only [firstT, List.mem_singleton] at hy
    rw [hy]
    simp only [firstX, List.length_append, leB_length]
    omega
  · intro y hy
    simp only [firstT, List.mem_singleton] at hy
    rw [hy]
    simp only [firstX, List.length_append, leB_length]
    omega
theorem startT_small : TxSmall startT := firstT_came (by omega) (by omega) (sha_length _) (by simp)
theorem startX0_small : BlkSmall startX0 := ⟨fun t ht => by simp only [startX0, List.mem_singleton] at ht; rw [ht]; exact startT_small, by simp [startX0]⟩
end Go.Proofs.YtckkcpplanfmhaaGreatDoor.Sha

/-
  The statements' own pair: the digest above two. Nothing that was there turns. No conditions.
-/
namespace Go.Proofs.YtckkcpplanfmhaaGreatDoor.Sha
open Go Go.RowKit
set_option maxHeartbeats 2000000 in
set_option maxRecDepth 100000 in
theorem pair_any (a b : List UInt8) (ha : a.length = 32) (hb : b.length = 32) (w : World) :
    Calls Tryz.prog 108 #[.agg (a.map bV).toArray, .agg (b.map bV).toArray] w fun e w' => e = .returned (.agg ((prH a b).map bV).toArray) ∧ Below w.heap.size w w' := by
  obtain ⟨i0, hi, hz0, hz1, hz2⟩ := info_parts info_u8
  have HA := Lib.hid ha
  have HB := Lib.hid hb
  have HOne := Lib.hid (bV_one (prH a b))
  have HLen : Hid ((((prH a b).map bV).toArray).size = 32) := by show _ = _; simp [prH_length]
  obtain ⟨dg, hdg⟩ : ∃ dg, dg = ((prH a b).map bV).toArray := ⟨_, rfl⟩
  rw [← hdg] at HOne HLen ⊢
  have HD := Lib.hid hdg
  clear hdg ha hb
  go_enter Tryz.func108, Tryz.ntmps108
  go_upto_region 1 with fail
  obtain ⟨b1, f1, f2, f3⟩ := boxes_two_zero w (a.map bV).toArray (b.map bV).toArray (List.replicate 32 (bV 0)).toArray 44
  generalize hw1 : World.alloc _ _ = w1
  have e1 : ((w.alloc (.cells (a.map bV).toArray 44 (0, 0))).alloc (.cells (b.map bV).toArray 44 (0, 0))).alloc (.cells (List.replicate 32 (bV 0)).toArray 44 (0, 0)) = w1 := hw1
  rw [e1] at b1 f1 f2 f3
  clear hw1 e1
  have F1 := Lib.hid f1
  have F2 := Lib.hid f2
  have F3 := Lib.hid f3
  have B1 := Lib.hid b1
  clear f1 f2 f3 b1
  refine wp_region_held_drew (S := (fun _ => True)) (by kernel_rfl) trivial (fun hHeld => ?_)
  have bb := Below.drew (Below.refl w1.heap.size w1)
  generalize hw2 : w1.drew = w2
  rw [hw2] at bb
  have F1 := Lib.hid (row_below F1.out bb)
  have F2 := Lib.hid (row_below F2.out bb)
  have F3 := Lib.hid (row_below F3.out bb)
  have B2 := Lib.hid (B1.out.trans (bb.mono B1.out.size))
  have B2G : Hid (w.heap.size + 2 < w2.heap.size) := by show _ < _; exact (Array.getElem?_eq_some_iff.1 F3.out).1
  clear hw2 bb B1
  refine held_take (i := 0) (v := (.slice (some ⟨w.heap.size, 0, none⟩) 32 32)) rfl (by kernel_rfl) (by kernel_rfl) (by kernel_rfl) (fun _ _ _ h => h) (Or.inl ⟨by rfl, fun w' _ => by kernel_rfl⟩) hHeld ?_
  go_frame
  refine held_take (i := 2) (v := (.slice (some ⟨w.heap.size + 1, 0, none⟩) 32 32)) rfl (by kernel_rfl) (by kernel_rfl) (by kernel_rfl) (fun _ _ _ h => h) (Or.inl ⟨by rfl, fun w' _ => by kernel_rfl⟩) hHeld ?_
  go_frame
  refine wpAnyH_ready (rs := [1]) (by kernel_rfl) (by simp) (held_cons rfl (fun K hK => ?_) AllReadyH.nil)
  go_simp
  refine (bytes_copy_any a _ 32 32 w2 (src_block HA.out F1.out) (by omega)).mono ?_
  rintro e w3 ⟨rfl, ho, bb⟩
  have HO := Lib.hid ho
  have F2 := Lib.hid (row_below F2.out bb)
  have F3 := Lib.hid (row_below F3.out bb)
  have B3 := Lib.hid (B2.out.trans (bb.mono B2.out.size))
  have S23 := Lib.hid bb.size
  have g2lt : w.heap.size + 2 < w2.heap.size := by have := B2G.out; omega
  clear ho bb F1
  go_wp2_with fail
  refine hK.out _ _ trivial (fun hHeld => ?_)
  clear hK K
  refine wpAnyH_ready (rs := [3]) (by kernel_rfl) (by simp) (held_cons rfl (fun K hK => ?_) AllReadyH.nil)
  rw [if_pos (by rfl)]
  refine wp_append_row w3 (.tmp 6) (.tmp 7) 51 rfl w2.heap.size 5 i0 (.int .u8 0) 1 1 Tryz.underlying51 hi hz0 hz1 hz2 (by kernel_rfl) (by decide) (.slice (some ⟨w2.heap.size, 0, none⟩) 32 32) 32 (a.map bV) rfl HO.out ⟨w.heap.size + 1, 0, none⟩ 32 32 (b.map bV) rfl (by rw [List.length_map, HB.out]) (hs_one F2.out) (bV_one' _) (by unfold maxLen; omega) (by omega) S23.out ?_
  intro v4 w4 q1 q2 q3
  obtain ⟨g4, c4, hv4, hg4, hc4⟩ := own_shape q1 (by omega)
  subst hv4
  have q1' : w4.ownsRow w2.heap.size 5 1 (.slice (some ⟨g4, 0, none⟩) 64 c4) 64 ((a ++ b).map bV) := by rw [List.map_append]; exact q1
  have S4 := Lib.hid (src_own q1')
  have q2' : w3.grownBy w4 (some w2.heap.size) := q2
  have F3 := Lib.hid (row_far F3.out q2' (fun e => by have := Option.some.inj e; omega))
  have B4 := Lib.hid (B3.out.grown q2' B3.out.size (fun k hk => by cases hk; exact B2.out.size))
  clear q1 q2 q3 q1' q2' hg4 hc4 B3 F2 HO
  go_frame
  refine hK.out _ _ trivial (fun hHeld => ?_)
  clear hK K
  refine wpAnyH_ready (rs := [4]) (by kernel_rfl) (by simp) (held_cons rfl (fun K hK => ?_) AllReadyH.nil)
  go_simp
  have TW := ref_twice (a ++ b) (some ⟨g4, 0, none⟩) 64 c4 w4 S4.out (by omega)
  rw [show sha (sha (a ++ b)) = prH a b from rfl, ← HD.out] at TW
  refine TW.mono ?_
  clear TW
  rintro e w5 ⟨rfl, bb⟩
  have F3 := Lib.hid (row_below F3.out bb)
  have B5 := Lib.hid (B4.out.trans (bb.mono B4.out.size))
  clear bb B4 S4
  go_wp2_with fail
  refine hK.out _ _ trivial (fun hHeld => ?_)
  clear hK K
  refine wpAnyH_ready (rs := [5]) (by kernel_rfl) (by simp) (held_cons rfl (fun K hK => ?_) AllReadyH.nil)
  rw [if_pos (by rfl)]
  refine wp_store_part 44 (.tmp 4) (.tmp 9) rfl (w.heap.size + 2) 0 [] (List.replicate 32 (bV 0)) [] dg.toList 44 (.agg dg) rfl rfl (by simp [Value.cells]) rfl (by simp [HLen.out]) (by simpa using F3.out) (by rw [Array.length_toList, HLen.out]; kernel_rfl) (one_list HOne.out) ?_
  intro w6 q1 q2
  have f6 : w6.heap[w.heap.size + 2]? = some (.cells dg 44 (0, 0)) := by simpa using q1
  have F6 := Lib.hid f6
  have B6 := Lib.hid (B5.out.grown q2 B5.out.size (fun k hk => by cases hk; omega))
  clear q1 q2 f6
  go_frame
  refine hK.out _ _ trivial (fun hHeld => ?_)
  clear hK K
  refine wpAnyH_done (by kernel_rfl) ?_ _
  clear hHeld
  go_wp2_with fail
  refine bodyPost_ret (results_cell_row rfl _ _ (w.heap.size + 2) 44 dg (0, 0) (.array 32 5) rfl F6.out Tryz.underlying44 rfl (by rw [HLen.out]; kernel_rfl)) rfl ⟨rfl, B6.out⟩
end Go.Proofs.YtckkcpplanfmhaaGreatDoor.Sha
