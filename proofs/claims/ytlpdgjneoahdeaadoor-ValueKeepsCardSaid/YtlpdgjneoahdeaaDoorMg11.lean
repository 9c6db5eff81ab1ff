/-
  Texts of this proof joined into one file: VlVals, VlFee, VlFlt, VlRipe, RefReward, RefRules. What each holds, and under which conditions, its own first sentence tells.
-/
import Derived.Test.YtlpdgjneoahdeaaDoorMg06
import Derived.Test.YtlpdgjneoahdeaaDoorMg02
import Derived.Test.YtlpdgjneoahdeaaDoorMg03
import Derived.Test.YtlpdgjneoahdeaaDoorMg10
import Derived.Test.YtlpdgjneoahdeaaDoorMg07
import Derived.Test.YtlpdgjneoahdeaaDoorMg04
/-
  Package value: the values of a row of coins, of outputs, as a new row. Nothing that was there turns. Conditions: the row lies in memory, at most a million.
-/
namespace Go.Proofs.YtlpdgjneoahdeaaDoor.Sha
open Go Go.RowKit
def heL (x : Nat × List Value) : List Value := uV x.1 :: x.2
def HeOk (k : Nat) (x : Nat × List Value) : Prop := x.2.length + 1 = k ∧ ∀ u ∈ x.2, u.oneCell' = true
theorem heL_length {k : Nat} {x : Nat × List Value} (h : HeOk k x) : (heL x).length = k := by show _ + 1 = _; exact h.1
theorem heL_one {k : Nat} {x : Nat × List Value} (h : HeOk k x) : (heL x).toArray.all (·.oneCell') = true := all_oneCell_toArray fun v hv => by
  rcases List.mem_cons.1 hv with rfl | hv
  · rfl
  · exact h.2 v hv
def VcInv (n base : Nat) (vs : List Nat) (w : World) (vb vi : Value) (wr : World) : Prop :=
  ∃ (k : Nat) (vq : Value), vq = vb ∧ k ≤ n ∧ vi = .int .i64 (k : Int) ∧ Below w.heap.size w wr ∧ wr.ownsRow base 22 1 vq k ((vs.take k).map uV)
set_option maxHeartbeats 1000000 in
set_option maxRecDepth 100000 in
theorem vlcoins_any (w : World) (v : Value) (l : List (Nat × List Value)) (h : RwAt 35 w v (l.map heL)) (hx : ∀ x ∈ l, HeOk 35 x) (hm : l.length ≤ 1000000) :
    Calls Tryd.prog 24 #[v] w fun e w' => ∃ v', e = .returned v' ∧ SrcU w' v' (l.map (·.1)) ∧ Below w.heap.size w w' := by
  obtain ⟨i0, hi, hz0, hz1, hz2⟩ := info_parts info_u64v
  obtain ⟨sp, cap, rfl⟩ := h.shape
  simp only [List.length_map] at h ⊢
  obtain ⟨n, hn⟩ : ∃ n, n = l.length := ⟨_, rfl⟩
  rw [← hn] at h hm ⊢
  obtain ⟨vs, hvs⟩ : ∃ vs, vs = l.map (·.1) := ⟨_, rfl⟩
  have VS := Lib.hid hvs
  have VN : Hid (vs.length = n) := by show _ = _; rw [hvs, List.length_map, hn]
  rw [← hvs]
  have N := Lib.hid hn
  have H := Lib.hid h
  have X := Lib.hid hx
  obtain ⟨base, hbase⟩ : ∃ base, base = w.heap.size := ⟨_, rfl⟩
  have BS := Lib.hid hbase
  clear hn h hx hvs
  go_enter Tryd.func24, Tryd.ntmps24
  go_wp2_with (at_make; refine wpList_make_own _ rfl _ _ 51 rfl w.heap.size 22 i0 (.int .u64 0) 1 Tryd.underlying51 hi hz0 hz1 _ _ _ n rfl rfl (by omega) (by rw [hz2]; omega) (by unfold maxLen; omega) (Nat.le_refl _) ?_; intro w2 hown hgrow; have HO := Lib.hid hown; have HB := Lib.hid (below_made hgrow); clear hown hgrow; go_frame)
  rw [← BS.out] at HO
  go_loopw [3, 11] (fun vb vi wr => VcInv n base vs w vb vi wr) (fun _ vi _ => n - (intOf vi).toNat)
  case atStart => exact ⟨0, _, rfl, Nat.zero_le _, rfl, HB.out, by simpa [BS.out] using HO.out⟩
  case round =>
    clear HO HB
    obtain ⟨k, vb, rfl, hk, rfl, B, HB⟩ := hrel
    have B := Lib.hid B
    have HB := Lib.hid HB
    by_cases hlt : k < n
    · obtain ⟨b, o, rfl, hg⟩ := (H.out.below B.out).get (by omega)
      obtain ⟨y, hy⟩ : ∃ y, l[k]? = some y := ⟨_, List.getElem?_eq_getElem (by rw [← N.out]; exact hlt)⟩
      have R := Lib.hid (hg k (heL y) (by rw [List.getElem?_map, hy]; rfl))
      have yo := X.out y (List.mem_of_getElem? hy)
      have LC : Hid ((heL y).length = 35) := heL_length yo
      have LC' : Hid ((heL y).toArray.size = 35) := by show _ = _; rw [List.size_toArray]; exact heL_length yo
      have ONE : Hid ((heL y).toArray.all (·.oneCell') = true) := heL_one yo
      have C0 : Hid (∀ (W : World) (g : Nat), W.heap[g]? = some (.cells (heL y).toArray 26 (0, 0)) → W.cell? ⟨g, 0, none⟩ = some (.int .u64 (y.1 : Int))) := fun W g hg => by rw [cell_of_row _ _ _ _ _ _ hg]; rfl
      have VT : Hid ((vs.take (k + 1)).map uV = (vs.take k).map uV ++ [.int .u64 (y.1 : Int)]) := by
        have e : vs[k]? = some y.1 := by rw [VS.out, List.getElem?_map, hy]; rfl
        show _ = _
        rw [List.take_succ_eq_append_getElem (List.getElem?_eq_some_iff.1 e).1, (List.getElem?_eq_some_iff.1 e).2, List.map_append]
        rfl
      have p0 : 0 ≤ (k : Int) := by omega
      have q0 : (k : Int) < (n : Int) := by omega
      obtain ⟨ct, hct⟩ : ∃ ct, ct = heL y := ⟨_, rfl⟩
      obtain ⟨yv, hyv⟩ : ∃ yv, yv = y.1 := ⟨_, rfl⟩
      rw [← hct] at R LC LC' ONE C0
      rw [← hyv] at C0 VT
      have zs : Hid ((uV 0 :: (List.replicate 32 (bV 0) ++ [.int .i64 0, .bool false])).toArray.size = ct.toArray.size) := by show _ = _; rw [LC'.out]; rfl
      clear hg hy yo hct hyv
      go_upto_region 5 with ((with_reducible show wpList _ _ _ _ _ _); first | (refine wpList_load_mid rfl 26 (.tmp 13) rfl b (o + k * 35) rfl ct _ R.out Tryd.underlying26 rfl (by rw [LC.out]; kernel_rfl) ?_; go_frame) | (refine wpList_store_row rfl 26 (.tmp 5) (.tmp 14) rfl wr.heap.size ct.toArray rfl rfl 26 _ (heap_alloc_new _ _) (by rw [LC'.out]; kernel_rfl) (by rw [LC'.out]; rfl) ONE.out ?_; go_frame))
      obtain ⟨_, f2, f3, f4⟩ := fill_setup (Below.refl wr.heap.size wr) (uV 0 :: (List.replicate 32 (bV 0) ++ [.int .i64 0, .bool false])).toArray ct.toArray 26
      generalize hqw5 : World.setRow _ _ _ = w5
      have ew5 : World.setRow (wr.alloc (.cells (uV 0 :: (List.replicate 32 (bV 0) ++ [.int .i64 0, .bool false])).toArray 26)) wr.heap.size ct.toArray = w5 := hqw5
      rw [ew5] at f2 f3 f4
      obtain ⟨g5, hg5⟩ : ∃ g5, g5 = wr.heap.size := ⟨_, rfl⟩
      rw [← hg5] at f2 ⊢
      have F5 := Lib.hid f2
      have Ng5 : Hid (wr.heap.size ≤ g5) := by show _ ≤ _; rw [hg5]; exact Nat.le_refl _
      have B5 := Lib.hid (B.out.trans (f4.mono B.out.size))
      have HB5 := Lib.hid (own_kept HB.out f4)
      clear f2 f3 f4 hqw5 ew5 hg5
      have cv := C0.out _ _ F5.out
      go_wp2_with (at_builtin; refine wpList_append_own _ rfl _ _ 51 rfl base 22 i0 (.int .u64 0) 1 8 Tryd.underlying51 hi hz0 hz1 hz2 rfl (by decide) vb k _ rfl (HB5.out.alloc _) ⟨w5.heap.size, 0, none⟩ 1 1 [.int .u64 (yv : Int)] rfl rfl (cell_one_new _ _ _) (fun u hu => by obtain rfl := List.mem_singleton.1 hu; rfl) (by unfold maxLen; omega) (by omega) (by have := B5.out.size; have := BS.out; simp; omega) ?_; intro v2 w3 ho3 hg3 _; have H3 := Lib.hid ho3; have B3 := Lib.hid (own_grown (B5.out.alloc B5.out.size _) (by rw [BS.out]; exact Nat.le_refl _) (by have := B5.out.size; simp; omega) (HB5.out.alloc _) hg3); clear ho3 hg3; go_frame)
      go_roundw
      case rel =>
        refine ⟨k + 1, v2, rfl, by omega, by go_num, B3.out, ?_⟩
        rw [VT.out]
        exact H3.out
      case measure => simp [intOf]; omega
    · have hkn : k = n := by omega
      have hge : ¬ (k : Int) < (n : Int) := by omega
      have H2 : Hid (SrcU wr vb vs) := by
        have h := HB.out
        rw [hkn, List.take_of_length_le (by rw [VN.out]; exact Nat.le_refl _)] at h
        exact srcU_own h
      clear hkn
      go_wp2_with fail
      go_ret
      exact ⟨vb, rfl, H2.out, B.out⟩
set_option maxHeartbeats 1000000 in
set_option maxRecDepth 100000 in
theorem vlouts_any (w : World) (v : Value) (l : List (Nat × List Value)) (h : RwAt 33 w v (l.map heL)) (hx : ∀ x ∈ l, HeOk 33 x) (hm : l.length ≤ 1000000) :
    Calls Tryd.prog 25 #[v] w fun e w' => ∃ v', e = .returned v' ∧ SrcU w' v' (l.map (·.1)) ∧ Below w.heap.size w w' := by
  obtain ⟨i0, hi, hz0, hz1, hz2⟩ := info_parts info_u64v
  obtain ⟨sp, cap, rfl⟩ := h.shape
  simp only [List.length_map] at h ⊢
  obtain ⟨n, hn⟩ : ∃ n, n = l.length := ⟨_, rfl⟩
  rw [← hn] at h hm ⊢
  obtain ⟨vs, hvs⟩ : ∃ vs, vs = l.map (·.1) := ⟨_, rfl⟩
  have VS := Lib.hid hvs
  have VN : Hid (vs.length = n) := by show _ = _; rw [hvs, List.length_map, hn]
  rw [← hvs]
  have N := Lib.hid hn
  have H := Lib.hid h
  have X := Lib.hid hx
  obtain ⟨base, hbase⟩ : ∃ base, base = w.heap.size := ⟨_, rfl⟩
  have BS := Lib.hid hbase
  clear hn h hx hvs
  go_enter Tryd.func25, Tryd.ntmps25
  go_wp2_with (at_make; refine wpList_make_own _ rfl _ _ 51 rfl w.heap.size 22 i0 (.int .u64 0) 1 Tryd.underlying51 hi hz0 hz1 _ _ _ n rfl rfl (by omega) (by rw [hz2]; omega) (by unfold maxLen; omega) (Nat.le_refl _) ?_; intro w2 hown hgrow; have HO := Lib.hid hown; have HB := Lib.hid (below_made hgrow); clear hown hgrow; go_frame)
  rw [← BS.out] at HO
  go_loopw [3, 11] (fun vb vi wr => VcInv n base vs w vb vi wr) (fun _ vi _ => n - (intOf vi).toNat)
  case atStart => exact ⟨0, _, rfl, Nat.zero_le _, rfl, HB.out, by simpa [BS.out] using HO.out⟩
  case round =>
    clear HO HB
    obtain ⟨k, vb, rfl, hk, rfl, B, HB⟩ := hrel
    have B := Lib.hid B
    have HB := Lib.hid HB
    by_cases hlt : k < n
    · obtain ⟨b, o, rfl, hg⟩ := (H.out.below B.out).get (by omega)
      obtain ⟨y, hy⟩ : ∃ y, l[k]? = some y := ⟨_, List.getElem?_eq_getElem (by rw [← N.out]; exact hlt)⟩
      have R := Lib.hid (hg k (heL y) (by rw [List.getElem?_map, hy]; rfl))
      have yo := X.out y (List.mem_of_getElem? hy)
      have LC : Hid ((heL y).length = 33) := heL_length yo
      have LC' : Hid ((heL y).toArray.size = 33) := by show _ = _; rw [List.size_toArray]; exact heL_length yo
      have ONE : Hid ((heL y).toArray.all (·.oneCell') = true) := heL_one yo
      have C0 : Hid (∀ (W : World) (g : Nat), W.heap[g]? = some (.cells (heL y).toArray 59 (0, 0)) → W.cell? ⟨g, 0, none⟩ = some (.int .u64 (y.1 : Int))) := fun W g hg => by rw [cell_of_row _ _ _ _ _ _ hg]; rfl
      have VT : Hid ((vs.take (k + 1)).map uV = (vs.take k).map uV ++ [.int .u64 (y.1 : Int)]) := by
        have e : vs[k]? = some y.1 := by rw [VS.out, List.getElem?_map, hy]; rfl
        show _ = _
        rw [List.take_succ_eq_append_getElem (List.getElem?_eq_some_iff.1 e).1, (List.getElem?_eq_some_iff.1 e).2, List.map_append]
        rfl
      have p0 : 0 ≤ (k : Int) := by omega
      have q0 : (k : Int) < (n : Int) := by omega
      obtain ⟨ct, hct⟩ : ∃ ct, ct = heL y := ⟨_, rfl⟩
      obtain ⟨yv, hyv⟩ : ∃ yv, yv = y.1 := ⟨_, rfl⟩
      rw [← hct] at R LC LC' ONE C0
      rw [← hyv] at C0 VT
      have zs : Hid ((uV 0 :: List.replicate 32 (bV 0)).toArray.size = ct.toArray.size) := by show _ = _; rw [LC'.out]; rfl
      clear hg hy yo hct hyv
      go_upto_region 5 with ((with_reducible show wpList _ _ _ _ _ _); first | (refine wpList_load_mid rfl 59 (.tmp 13) rfl b (o + k * 33) rfl ct _ R.out Tryd.underlying59 rfl (by rw [LC.out]; kernel_rfl) ?_; go_frame) | (refine wpList_store_row rfl 59 (.tmp 5) (.tmp 14) rfl wr.heap.size ct.toArray rfl rfl 59 _ (heap_alloc_new _ _) (by rw [LC'.out]; kernel_rfl) (by rw [LC'.out]; rfl) ONE.out ?_; go_frame))
      obtain ⟨_, f2, f3, f4⟩ := fill_setup (Below.refl wr.heap.size wr) (uV 0 :: List.replicate 32 (bV 0)).toArray ct.toArray 59
      generalize hqw5 : World.setRow _ _ _ = w5
      have ew5 : World.setRow (wr.alloc (.cells (uV 0 :: List.replicate 32 (bV 0)).toArray 59)) wr.heap.size ct.toArray = w5 := hqw5
      rw [ew5] at f2 f3 f4
      obtain ⟨g5, hg5⟩ : ∃ g5, g5 = wr.heap.size := ⟨_, rfl⟩
      rw [← hg5] at f2 ⊢
      have F5 := Lib.hid f2
      have Ng5 : Hid (wr.heap.size ≤ g5) := by show _ ≤ _; rw [hg5]; exact Nat.le_refl _
      have B5 := Lib.hid (B.out.trans (f4.mono B.out.size))
      have HB5 := Lib.hid (own_kept HB.out f4)
      clear f2 f3 f4 hqw5 ew5 hg5
      have cv := C0.out _ _ F5.out
      go_wp2_with (at_builtin; refine wpList_append_own _ rfl _ _ 51 rfl base 22 i0 (.int .u64 0) 1 8 Tryd.underlying51 hi hz0 hz1 hz2 rfl (by decide) vb k _ rfl (HB5.out.alloc _) ⟨w5.heap.size, 0, none⟩ 1 1 [.int .u64 (yv : Int)] rfl rfl (cell_one_new _ _ _) (fun u hu => by obtain rfl := List.mem_singleton.1 hu; rfl) (by unfold maxLen; omega) (by omega) (by have := B5.out.size; have := BS.out; simp; omega) ?_; intro v2 w3 ho3 hg3 _; have H3 := Lib.hid ho3; have B3 := Lib.hid (own_grown (B5.out.alloc B5.out.size _) (by rw [BS.out]; exact Nat.le_refl _) (by have := B5.out.size; simp; omega) (HB5.out.alloc _) hg3); clear ho3 hg3; go_frame)
      go_roundw
      case rel =>
        refine ⟨k + 1, v2, rfl, by omega, by go_num, B3.out, ?_⟩
        rw [VT.out]
        exact H3.out
      case measure => simp [intOf]; omega
    · have hkn : k = n := by omega
      have hge : ¬ (k : Int) < (n : Int) := by omega
      have H2 : Hid (SrcU wr vb vs) := by
        have h := HB.out
        rw [hkn, List.take_of_length_le (by rw [VN.out]; exact Nat.le_refl _)] at h
        exact srcU_own h
      clear hkn
      go_wp2_with fail
      go_ret
      exact ⟨vb, rfl, H2.out, B.out⟩
end Go.Proofs.YtlpdgjneoahdeaaDoor.Sha

/-
  Package value: what a transaction leaves over of its coins, or its first fault. Nothing that was there turns. Conditions: the transaction and the coins lie in memory, at most a million inputs and outputs; the four errors are there, and the table of the rounds' words.
-/
namespace Go.Proofs.YtlpdgjneoahdeaaDoor.Sha
open Go Go.RowKit
def feeW (va vb : List Nat) : Nat × Nat × Option Nat := if (sumIs va && sumIs vb) = false then (0, 5, none) else if sumL va < sumL vb then (0, 17, none) else (sumL va - sumL vb, 0, none)
def feeR (t : TTx) (ms : List TMn) : Nat × Nat × Option Nat :=
  if ms.length ≠ t.ins.length then (0, 2, none) else
  match (opB t ms).findIdx? (fun b => !b) with
  | some i => (0, 14, some i)
  | none => feeW (ms.map (·.val)) (t.outs.map (·.val))
def fltL : Nat × Option Nat → List Value
  | (c, none) => fC (numE c)
  | (c, some i) => pC (numE c) (i : Int)
theorem feeL_of (t : TTx) (ms : List TMn) : feeL t ms = ((feeR t ms).1, fltL (feeR t ms).2) := by
  unfold feeL feeR
  generalize (opB t ms).findIdx? (fun b => !b) = o
  split
  · rfl
  · cases o with
    | some i => rfl
    | none =>
      show feeV _ _ = ((feeW _ _).1, fltL (feeW _ _).2)
      unfold feeV feeW
      split
      · rfl
      · split <;> rfl
/-- The errors that Fee tells. -/
def FeE (w : World) (E : Nat → Addr) : Prop := ∀ i, i = 1 ∨ i = 4 ∨ i = 13 ∨ i = 16 → w.cell? ⟨errG.getD i 0, 0, none⟩ = some (errV E (i + 1))
theorem Errs.fee {w : World} {E : Nat → Addr} (h : Errs w E) : FeE w E := fun i hi => (h.1 i (by omega)).1
theorem FeE.below {w w' : World} {E : Nat → Addr} (h : FeE w E) (hb : Below w.heap.size w w') : FeE w' E := fun i hi => cell_below (h i hi) hb
def heM (c : TMn) : Nat × List Value := (c.val, c.lock.map bV ++ [.int .i64 c.height, .bool c.base])
def heO (y : TOut) : Nat × List Value := (y.val, y.lock.map bV)
theorem heM_row {w : World} {v : Value} {ms : List TMn} (h : RwAt 35 w v (ms.map mnL)) : RwAt 35 w v ((ms.map heM).map heL) := by rw [List.map_map]; exact h
theorem heM_ok {c : TMn} (h : MnOk c) : HeOk 35 (heM c) := ⟨by simp [heM, h.1], fun u hu => by
  rcases List.mem_append.1 hu with hu | hu
  · exact bV_one' _ u hu
  · simp only [List.mem_cons, List.not_mem_nil, or_false] at hu
    rcases hu with rfl | rfl <;> rfl⟩
theorem heO_row {w : World} {v : Value} {l : List TOut} (h : OutsAt w v l) : RwAt 33 w v ((l.map heO).map heL) ∧ ∀ x ∈ l.map heO, HeOk 33 x := by
  obtain ⟨sp, cap, rfl, hc, hg⟩ := h
  have ok : ∀ y ∈ l, OutOk y := fun y hy => by
    obtain ⟨i, hi⟩ := List.getElem?_of_mem hy
    obtain ⟨b, o, _, hg⟩ := hg (List.length_pos_of_mem hy)
    exact (hg i y hi).1
  have hx : ∀ x ∈ l.map heO, HeOk 33 x := fun x hx => by
    obtain ⟨y, hy, rfl⟩ := List.mem_map.1 hx
    exact ⟨by simp [heO, (ok y hy).1], fun u hu => bV_one' _ u hu⟩
  refine ⟨⟨fun x hx2 => by obtain ⟨y, hy, rfl⟩ := List.mem_map.1 hx2; exact heL_length (hx y hy), sp, cap, by simp, by simpa using hc, fun h0 => ?_⟩, hx⟩
  · obtain ⟨b, o, e, hg⟩ := hg (by simpa using h0)
    refine ⟨b, o, e, fun i x hx => ?_⟩
    rw [List.map_map, List.getElem?_map] at hx
    cases hy : l[i]? with
    | none => rw [hy] at hx; cases hx
    | some y =>
      rw [hy] at hx
      cases hx
      exact (hg i y hy).2
def FvI (B : List Bool) (n : Nat) (w : World) (vi : Value) (wr : World) : Prop :=
  ∃ k : Nat, vi = .int .i64 (k : Int) ∧ k ≤ n ∧ (∀ j, j < k → B[j]? = some true) ∧ Below w.heap.size w wr
def mnZ0 : List Value := uV 0 :: (List.replicate 32 (bV 0) ++ [.int .i64 0, .bool false])
set_option maxHeartbeats 2000000 in
set_option maxRecDepth 100000 in
theorem vlfee_any (E : Nat → Addr) (w : World) (v vm : Value) (t : TTx) (ms : List TMn) (h : TxAt w v t) (hh : RwAt 35 w vm (ms.map mnL)) (hok : ∀ m ∈ ms, MnOk m) (hm : t.ins.length ≤ 1000000) (hmm : ms.length ≤ 1000000) (hmo : t.outs.length ≤ 1000000) (hE : FeE w E) (hK : ∀ W, Below w.heap.size w W → KTab W) :
    Calls Tryd.prog 7 #[v, vm] w fun e w' => ∃ u, e = .returned (.tuple #[.int .u64 ((feeR t ms).1 : Int), u]) ∧ FltV w' E u (feeR t ms).2 ∧ Below w.heap.size w w' := by
  have h0 := h
  obtain ⟨_, iv, ov, rfl, hin, hou⟩ := h
  have TONE : Hid ((txL t iv ov).toArray.all (·.oneCell') = true) := tx_one hin hou
  have LT : Hid ((txL t iv ov).toArray.size = 4) := rfl
  have CO : Hid (∀ (W : World) (g : Nat), W.heap[g]? = some (.cells (txL t iv ov).toArray 31 (0, 0)) → W.cell? ⟨g, 1, none⟩ = some iv ∧ W.cell? ⟨g, 2, none⟩ = some ov) := fun W g hg => ⟨(tx_cells hg).2.1, (tx_cells hg).2.2.1⟩
  obtain ⟨ho1, ho2⟩ := heO_row hou
  have VO : Hid (∀ W, Below w.heap.size w W → Calls Tryd.prog 25 #[ov] W fun e w' => ∃ v', e = .returned v' ∧ SrcU w' v' (t.outs.map (·.val)) ∧ Below W.heap.size W w') := fun W hW => by
    have h := vlouts_any W ov (t.outs.map heO) (ho1.below hW) ho2 (by rw [List.length_map]; exact hmo)
    rw [List.map_map] at h
    exact h
  have VC : Hid (∀ W, Below w.heap.size w W → Calls Tryd.prog 24 #[vm] W fun e w' => ∃ v', e = .returned v' ∧ SrcU w' v' (ms.map (·.val)) ∧ Below W.heap.size W w') := fun W hW => by
    have h := vlcoins_any W vm (ms.map heM) ((heM_row hh).below hW) (fun x hx => by obtain ⟨c, hc, rfl⟩ := List.mem_map.1 hx; exact heM_ok (hok c hc)) (by rw [List.length_map]; exact hmm)
    rw [List.map_map] at h
    exact h
  obtain ⟨si, ci, rfl, _, hgi⟩ := hin
  obtain ⟨so, co, hso, _⟩ := hou
  obtain ⟨sm, cm, hsm⟩ := hh.shape
  rw [hsm] at hh VC ⊢
  clear hsm ho1 ho2
  simp only [List.length_map] at hh VC ⊢
  obtain ⟨n, hn⟩ : ∃ n, n = t.ins.length := ⟨_, rfl⟩
  rw [← hn] at hm CO TONE LT hgi ⊢
  have N := Lib.hid hn
  have HI := Lib.hid hgi
  have MO := Lib.hid hok
  have HE := Lib.hid hE
  have HK := Lib.hid hK
  obtain ⟨nm, hnm⟩ : ∃ nm, nm = ms.length := ⟨_, rfl⟩
  rw [← hnm] at hh VC ⊢
  have NM := Lib.hid hnm
  have HH := Lib.hid hh
  obtain ⟨B0, hB0⟩ : ∃ B, B = opB t ms := ⟨_, rfl⟩
  have BG : Hid (∀ (i : Nat) (x : TIn) (m : TMn), t.ins[i]? = some x → ms[i]? = some m → B0[i]? = some (opensL x.key m.lock)) := fun i x m h1 h2 => by rw [hB0]; exact opB_get h1 h2
  have BL : Hid (nm = n → B0.length = n) := fun e => by rw [hB0]; unfold opB; simp; omega
  obtain ⟨va, hva⟩ : ∃ va, va = ms.map (·.val) := ⟨_, rfl⟩
  obtain ⟨vo, hvo⟩ : ∃ vo, vo = t.outs.map (·.val) := ⟨_, rfl⟩
  rw [← hvo] at VO
  rw [← hva] at VC
  have VOL : Hid (vo.length ≤ 1000000) := by show _ ≤ _; rw [hvo, List.length_map]; exact hmo
  have VAL : Hid (va.length ≤ 1000000) := by show _ ≤ _; rw [hva, List.length_map]; exact hmm
  have FE : Hid (feeR t ms = if nm ≠ n then (0, 2, none) else match B0.findIdx? (fun b => !b) with | some i => (0, 14, some i) | none => feeW va vo) := by rw [hnm, hn, hB0, hva, hvo]; rfl
  obtain ⟨R, hR⟩ : ∃ R, R = feeR t ms := ⟨_, rfl⟩
  rw [← hR] at FE ⊢
  obtain ⟨ct, hct⟩ : ∃ ct, ct = txL t (.slice si n ci) ov := ⟨_, rfl⟩
  rw [← hct] at TONE LT CO ⊢
  clear hn hnm hgi hh hok hB0 hva hvo hR hct h0 hmo hE hK hso
  go_enter Tryd.func7, Tryd.ntmps7
  go_upto_region 1 with fail
  have f2 := heap_alloc_new w (.cells ct.toArray 31 (0, 0))
  have b1 := (Below.refl w.heap.size w).alloc (Nat.le_refl _) (.cells ct.toArray 31 (0, 0))
  generalize hw1 : World.alloc _ _ = w1
  have e1 : w.alloc (.cells ct.toArray 31 (0, 0)) = w1 := hw1
  rw [e1] at f2 b1
  obtain ⟨g2, hg2⟩ : ∃ g2, g2 = w.heap.size := ⟨_, rfl⟩
  rw [← hg2] at f2 ⊢
  have F2 := Lib.hid f2
  have B1 := Lib.hid b1
  obtain ⟨c1, c2⟩ := CO.out _ _ F2.out
  clear f2 b1 hw1 e1 hg2
  by_cases hne : nm = n
  · have hne2 := hne.symm
    subst hne2
    have q1 : ((n : Int) != (n : Int)) = false := by simp
    have FE2 : Hid (R = match B0.findIdx? (fun b => !b) with | some i => (0, 14, some i) | none => feeW va vo) := by show _ = _; rw [FE.out, if_neg (by simp)]
    have BLN : Hid (B0.length = n) := BL.out rfl
    clear FE
    clear c2
    go_wp2_with fail
    clear c1
    go_loopw [21] (fun vi wr => FvI B0 n w1 vi wr) (fun vi _ => n - (intOf vi).toNat)
    case atStart => exact ⟨0, rfl, Nat.zero_le _, fun j hj => absurd hj (by omega), Below.refl _ _⟩
    case round =>
      obtain ⟨k, rfl, hk, hopn, hbel⟩ := hrel
      have OA := Lib.hid hopn
      have B := Lib.hid hbel
      have BB := Lib.hid (B1.out.trans (hbel.mono B1.out.size))
      clear hopn hbel
      by_cases hlt : k < n
      · obtain ⟨x, hx⟩ : ∃ x, t.ins[k]? = some x := ⟨_, List.getElem?_eq_getElem (by rw [← N.out]; exact hlt)⟩
        obtain ⟨m, hmk⟩ : ∃ m, ms[k]? = some m := ⟨_, List.getElem?_eq_getElem (by rw [← NM.out]; exact hlt)⟩
        obtain ⟨bi, oi, rfl, hg⟩ := HI.out (by omega)
        obtain ⟨bm, om, rfl, hgm⟩ := (HH.out.below BB.out).get (by omega)
        have RM := Lib.hid (hgm k (mnL m) (by rw [List.getElem?_map, hmk]; rfl))
        have om1 := MO.out m (List.mem_of_getElem? hmk)
        have LC : Hid ((mnL m).length = 35) := mnL_length om1
        have LC' : Hid ((mnL m).toArray.size = 35) := mnL_size om1
        have ONE : Hid ((mnL m).toArray.all (·.oneCell') = true) := mnL_all m
        have LKF : Hid (∀ (W : World) (g : Nat), W.heap[g]? = some (.cells (mnL m).toArray 26 (0, 0)) → W.rangeAt g 1 (m.lock.map bV)) := fun W g hg => by
          have h := mn_lock (range_of_box hg)
          rwa [Nat.zero_add] at h
        have LL : Hid ((m.lock.map bV).length = 32) := by show _ = _; rw [List.length_map]; exact om1.1
        have BK := Lib.hid (BG.out k x m hx hmk)
        have zs : Hid (mnZ0.toArray.size = (mnL m).toArray.size) := by show _ = _; rw [LC'.out]; rfl
        obtain ⟨ct7, hct7⟩ : ∃ ct7, ct7 = mnL m := ⟨_, rfl⟩
        rw [← hct7] at RM LC LC' ONE LKF zs
        have i0' : 0 ≤ (k : Int) := by omega
        have i1' : (k : Int) < (n : Int) := by omega
        go_upto_region 6 with ((with_reducible show wpList _ _ _ _ _ _); first | (refine wpList_load_mid rfl 26 (.tmp 24) rfl bm (om + k * 35) rfl ct7 _ RM.out Tryd.underlying26 rfl (by rw [LC.out]; kernel_rfl) ?_; go_frame) | (refine wpList_store_row rfl 26 (.tmp 7) (.tmp 25) rfl wr.heap.size ct7.toArray rfl rfl 26 _ (heap_alloc_new _ _) (by rw [LC'.out]; kernel_rfl) (by rw [LC'.out]; rfl) ONE.out ?_; go_frame))
        obtain ⟨_, f2, f3, f4⟩ := fill_setup (Below.refl wr.heap.size wr) mnZ0.toArray ct7.toArray 26
        generalize hqw5 : World.setRow _ _ _ = w5
        have ew5 : World.setRow (wr.alloc (.cells mnZ0.toArray 26)) wr.heap.size ct7.toArray = w5 := hqw5
        rw [ew5] at f2 f3 f4
        obtain ⟨g7, hg7⟩ : ∃ g7, g7 = wr.heap.size := ⟨_, rfl⟩
        rw [← hg7] at f2 ⊢
        have F7 := Lib.hid f2
        have Ng7 : Hid (wr.heap.size ≤ g7) := by show _ ≤ _; rw [hg7]; exact Nat.le_refl _
        have B5 := Lib.hid (B.out.trans (f4.mono B.out.size))
        have BB5 := Lib.hid (BB.out.trans (f4.mono BB.out.size))
        clear f2 f3 f4 hqw5 ew5 hg7
        obtain ⟨ox, kv, hkv, hr⟩ := (hg k x hx).below BB5.out
        obtain ⟨hsk, sk, ck, rfl⟩ := hkv
        have CK := Lib.hid (in_key ox.1 hr)
        have RL := Lib.hid (LKF.out _ _ F7.out)
        have C1 := Lib.hid (CO.out _ _ (row_below F2.out B5.out)).1
        obtain ⟨ob, hob⟩ : ∃ ob, ob = opensL x.key m.lock := ⟨_, rfl⟩
        rw [← hob] at BK
        have OP : Hid (∀ W, Below w5.heap.size w5 W → Calls Tryd.prog 22 #[.slice sk x.key.length ck, .agg (m.lock.map bV).toArray] W fun e w' => e = .returned (.bool ob) ∧ Below W.heap.size W w') := fun W hW => opens_all x.key m.lock _ W (HK.out W (BB5.out.trans (hW.mono BB5.out.size))) (hsk.below hW) om1.1 ob hob
        obtain ⟨nk, hnk⟩ : ∃ nk, nk = x.key.length := ⟨_, rfl⟩
        rw [← hnk] at CK OP
        obtain ⟨lk, hlk⟩ : ∃ lk, lk = m.lock.map bV := ⟨_, rfl⟩
        rw [← hlk] at RL LL OP
        clear hx hmk hg hr hsk hgm om1 hob hnk hlk ox hct7 LKF
        cases ob with
        | false =>
          have RV : Hid (R = (0, 14, some k)) := by show _ = _; rw [FE2.out, shut_at OA.out BK.out]
          refine wp_region_held_drew (S := (fun w' => Below w5.heap.size w5 w')) (by kernel_rfl) (Below.drew (Below.refl _ _)) (fun hHeld => ?_)
          generalize hwd : w5.drew = wd at  hHeld ⊢
          clear hwd
          refine held_take (i := 0) (v := (.pointer (some ⟨g2, 1, none⟩))) rfl (by kernel_rfl) (by kernel_rfl) (by kernel_rfl) (fun _ _ _ h => h) (Or.inl ⟨by rfl, fun w' _ => by kernel_rfl⟩) hHeld ?_
          go_frame
          refine held_take (i := 1) (v := (.slice (some ⟨bi, oi, none⟩) n ci)) rfl (by kernel_rfl) (by kernel_rfl) (by kernel_rfl) (fun _ _ _ h => h) (yieldsIf_load_one (by rfl) 28 (.tmp 26) rfl g2 (1) rfl _ _ (fun w' hw' => cell_below C1.out hw') Tryd.underlying28 rfl) hHeld ?_
          go_frame
          refine held_take (i := 2) (v := (.int .i64 (k : Int))) rfl (by kernel_rfl) (by kernel_rfl) (by kernel_rfl) (fun _ _ _ h => h) (Or.inl ⟨by rfl, fun w' _ => by kernel_rfl⟩) hHeld ?_
          go_frame
          refine held_take (i := 3) (v := (.pointer (some ⟨bi, oi + k * 35, none⟩))) rfl (by kernel_rfl) (by kernel_rfl) (by kernel_rfl) (fun _ _ _ h => h) (Or.inl ⟨by rfl, fun w' _ => by go_simp⟩) hHeld ?_
          go_frame
          refine held_take (i := 4) (v := (.pointer (some ⟨bi, oi + k * 35 + 33, none⟩))) rfl (by kernel_rfl) (by kernel_rfl) (by kernel_rfl) (fun _ _ _ h => h) (Or.inl ⟨by rfl, fun w' _ => by kernel_rfl⟩) hHeld ?_
          go_frame
          refine held_take (i := 5) (v := (.slice sk nk ck)) rfl (by kernel_rfl) (by kernel_rfl) (by kernel_rfl) (fun _ _ _ h => h) (yieldsIf_load_one (by rfl) 52 (.tmp 30) rfl bi (oi + k * 35 + 33) rfl _ _ (fun w' hw' => cell_below CK.out hw') Tryd.underlying52 rfl) hHeld ?_
          go_frame
          refine held_take (i := 6) (v := (.pointer (some ⟨g7, 1, none⟩))) rfl (by kernel_rfl) (by kernel_rfl) (by kernel_rfl) (fun _ _ _ h => h) (Or.inl ⟨by rfl, fun w' _ => by kernel_rfl⟩) hHeld ?_
          go_frame
          refine held_take (i := 7) (v := (.agg lk.toArray)) rfl (by kernel_rfl) (by kernel_rfl) (by kernel_rfl) (fun _ _ _ h => h) (Sha.yieldsIf_load_mid (by rfl) 24 (.tmp 32) rfl g7 (1) rfl lk _ (fun w' hw' => range_below RL.out hw') Tryd.underlying24 rfl (by rw [LL.out]; kernel_rfl)) hHeld ?_
          go_frame
          refine wpAnyH_ready (rs := [8]) (by kernel_rfl) (by simp) (held_cons rfl (fun K hK => ?_) AllReadyH.nil)
          go_simp
          refine (OP.out _ hHeld).mono ?_
          rintro e v1 ⟨rfl, bb⟩
          have hv1 := hHeld.trans (bb.mono hHeld.size)
          clear bb hHeld
          go_wp2_with fail
          refine hK.out _ _ hv1 (fun hHeld => ?_)
          clear hK K hv1
          refine held_take (i := 9) (v := (.bool true)) rfl (by kernel_rfl) (by kernel_rfl) (by kernel_rfl) (fun _ _ _ h => h) (Or.inl ⟨by rfl, fun w' _ => by go_simp⟩) hHeld ?_
          go_frame
          refine wpAnyH_done (by kernel_rfl) ?_ _
          obtain ⟨w7, h7⟩ : ∃ w7, w7 = v1 := ⟨_, rfl⟩
          rw [← h7] at hHeld ⊢
          clear h7
          have BR := Lib.hid (B5.out.trans (hHeld.mono B5.out.size))
          have BA := Lib.hid (BB5.out.trans (hHeld.mono BB5.out.size))
          clear hHeld
          have HE7 := Lib.hid (HE.out.below BA.out)
          have q13 : w7.cell? ⟨1, 0, none⟩ = some (.iface 114 (.pointer (some (E 13)))) := HE7.out 13 (by omega)
          have Q13 := Lib.hid q13
          clear q13
          go_upto_region 7 with fail
          refine wp_region_held_drew (S := (fun w' => Below w7.heap.size w7 w')) (by kernel_rfl) (Below.drew (Below.refl _ _)) (fun hHeld => ?_)
          generalize hwd : w7.drew = wd at  hHeld ⊢
          clear hwd
          refine held_take (i := 0) (v := (.int .i64 (k : Int))) rfl (by kernel_rfl) (by kernel_rfl) (by kernel_rfl) (fun _ _ _ h => h) (Or.inl ⟨by rfl, fun w' _ => by kernel_rfl⟩) hHeld ?_
          go_frame
          refine held_take (i := 1) (v := (.iface 114 (.pointer (some (E 13))))) rfl (by kernel_rfl) (by kernel_rfl) (by kernel_rfl) (fun _ _ _ h => h) (yieldsIf_load_one (by rfl) 37 _ rfl 1 (0) rfl _ _ (fun w' hw' => cell_below Q13.out hw') Tryd.underlying37 rfl) hHeld ?_
          go_frame
          refine held_take (i := 2) (v := (.agg #[.int .i64 (k : Int), (.iface 114 (.pointer (some (E 13))))])) rfl (by kernel_rfl) (by kernel_rfl) (by kernel_rfl) (fun _ _ _ h => h) (Or.inl ⟨by rfl, fun w' _ => by kernel_rfl⟩) hHeld ?_
          go_frame
          refine held_take (i := 5) (v := (.int .u64 0)) rfl (by kernel_rfl) (by kernel_rfl) (by kernel_rfl) (fun _ _ _ h => h) (Or.inl ⟨by rfl, fun w' _ => by kernel_rfl⟩) hHeld ?_
          go_frame
          refine wpAnyH_ready (rs := [3]) (by kernel_rfl) (by simp) (held_cons rfl (fun K hK => ?_) AllReadyH.nil)
          go_simp
          have nf := heap_alloc_new wd (.cells ([.int .i64 (k : Int), (.iface 114 (.pointer (some (E 13))))]).toArray 70 (0, 0))
          have bb := (Below.refl wd.heap.size wd).alloc (Nat.le_refl _) (.cells ([.int .i64 (k : Int), (.iface 114 (.pointer (some (E 13))))]).toArray 70 (0, 0))
          obtain ⟨gv1, hgv1⟩ : ∃ g, g = wd.heap.size := ⟨_, rfl⟩
          have GFA : Hid (w7.heap.size ≤ gv1) := by show _ ≤ _; rw [hgv1]; exact hHeld.size
          generalize hqv1 : World.alloc _ _ = v1
          have ev1 : wd.alloc (.cells ([.int .i64 (k : Int), (.iface 114 (.pointer (some (E 13))))]).toArray 70 (0, 0)) = v1 := hqv1
          rw [ev1] at nf bb
          rw [← hgv1] at nf ⊢
          have FA := Lib.hid nf
          have hv1 := hHeld.trans (bb.mono hHeld.size)
          clear nf bb hqv1 ev1 hgv1 hHeld
          refine hK.out _ _ hv1 (fun hHeld => ?_)
          clear hK K hv1
          refine held_take (i := 4) (v := (.iface 68 (.pointer (some ⟨gv1, 0, none⟩)))) rfl (by kernel_rfl) (by kernel_rfl) (by kernel_rfl) (fun _ _ _ h => h) (Or.inl ⟨by rfl, fun w' _ => by go_simp⟩) hHeld ?_
          go_frame
          refine held_take (i := 6) (v := (.iface 68 (.pointer (some ⟨gv1, 0, none⟩)))) rfl (by kernel_rfl) (by kernel_rfl) (by kernel_rfl) (fun _ _ _ h => h) (Or.inl ⟨by rfl, fun w' _ => by kernel_rfl⟩) hHeld ?_
          go_frame
          refine wpAnyH_done (by kernel_rfl) ?_ _
          have BZ := Lib.hid (BA.out.trans (hHeld.mono BA.out.size))
          clear hHeld
          go_wp2_with fail
          go_ret2
          exact ⟨_, by rw [RV.out]; rfl, by rw [RV.out]; exact .inr ⟨13, k, gv1, rfl, rfl, FA.out⟩, BZ.out⟩
        | true =>
          have ON : Hid (∀ j, j < k + 1 → B0[j]? = some true) := fun j hj => by
            by_cases e : j = k
            · rw [e]; exact BK.out
            · exact OA.out j (by omega)
          refine wp_region_held_drew (S := (fun w' => Below w5.heap.size w5 w')) (by kernel_rfl) (Below.drew (Below.refl _ _)) (fun hHeld => ?_)
          generalize hwd : w5.drew = wd at  hHeld ⊢
          clear hwd
          refine held_take (i := 0) (v := (.pointer (some ⟨g2, 1, none⟩))) rfl (by kernel_rfl) (by kernel_rfl) (by kernel_rfl) (fun _ _ _ h => h) (Or.inl ⟨by rfl, fun w' _ => by kernel_rfl⟩) hHeld ?_
          go_frame
          refine held_take (i := 1) (v := (.slice (some ⟨bi, oi, none⟩) n ci)) rfl (by kernel_rfl) (by kernel_rfl) (by kernel_rfl) (fun _ _ _ h => h) (yieldsIf_load_one (by rfl) 28 (.tmp 26) rfl g2 (1) rfl _ _ (fun w' hw' => cell_below C1.out hw') Tryd.underlying28 rfl) hHeld ?_
          go_frame
          refine held_take (i := 2) (v := (.int .i64 (k : Int))) rfl (by kernel_rfl) (by kernel_rfl) (by kernel_rfl) (fun _ _ _ h => h) (Or.inl ⟨by rfl, fun w' _ => by kernel_rfl⟩) hHeld ?_
          go_frame
          refine held_take (i := 3) (v := (.pointer (some ⟨bi, oi + k * 35, none⟩))) rfl (by kernel_rfl) (by kernel_rfl) (by kernel_rfl) (fun _ _ _ h => h) (Or.inl ⟨by rfl, fun w' _ => by go_simp⟩) hHeld ?_
          go_frame
          refine held_take (i := 4) (v := (.pointer (some ⟨bi, oi + k * 35 + 33, none⟩))) rfl (by kernel_rfl) (by kernel_rfl) (by kernel_rfl) (fun _ _ _ h => h) (Or.inl ⟨by rfl, fun w' _ => by kernel_rfl⟩) hHeld ?_
          go_frame
          refine held_take (i := 5) (v := (.slice sk nk ck)) rfl (by kernel_rfl) (by kernel_rfl) (by kernel_rfl) (fun _ _ _ h => h) (yieldsIf_load_one (by rfl) 52 (.tmp 30) rfl bi (oi + k * 35 + 33) rfl _ _ (fun w' hw' => cell_below CK.out hw') Tryd.underlying52 rfl) hHeld ?_
          go_frame
          refine held_take (i := 6) (v := (.pointer (some ⟨g7, 1, none⟩))) rfl (by kernel_rfl) (by kernel_rfl) (by kernel_rfl) (fun _ _ _ h => h) (Or.inl ⟨by rfl, fun w' _ => by kernel_rfl⟩) hHeld ?_
          go_frame
          refine held_take (i := 7) (v := (.agg lk.toArray)) rfl (by kernel_rfl) (by kernel_rfl) (by kernel_rfl) (fun _ _ _ h => h) (Sha.yieldsIf_load_mid (by rfl) 24 (.tmp 32) rfl g7 (1) rfl lk _ (fun w' hw' => range_below RL.out hw') Tryd.underlying24 rfl (by rw [LL.out]; kernel_rfl)) hHeld ?_
          go_frame
          refine wpAnyH_ready (rs := [8]) (by kernel_rfl) (by simp) (held_cons rfl (fun K hK => ?_) AllReadyH.nil)
          go_simp
          refine (OP.out _ hHeld).mono ?_
          rintro e v1 ⟨rfl, bb⟩
          have hv1 := hHeld.trans (bb.mono hHeld.size)
          clear bb hHeld
          go_wp2_with fail
          refine hK.out _ _ hv1 (fun hHeld => ?_)
          clear hK K hv1
          refine held_take (i := 9) (v := (.bool false)) rfl (by kernel_rfl) (by kernel_rfl) (by kernel_rfl) (fun _ _ _ h => h) (Or.inl ⟨by rfl, fun w' _ => by go_simp⟩) hHeld ?_
          go_frame
          refine wpAnyH_done (by kernel_rfl) ?_ _
          obtain ⟨w7, h7⟩ : ∃ w7, w7 = v1 := ⟨_, rfl⟩
          rw [← h7] at hHeld ⊢
          clear h7
          have BR := Lib.hid (B5.out.trans (hHeld.mono B5.out.size))
          have BA := Lib.hid (BB5.out.trans (hHeld.mono BB5.out.size))
          clear hHeld
          go_wp2_with fail
          go_roundw
          case rel => exact ⟨k + 1, by go_num, by omega, ON.out, BR.out⟩
          case measure => simp [intOf]; omega
      · have hkn : k = n := by omega
        have bln : B0.length = n := BLN.out
        have RV : Hid (R = feeW va vo) := by
          show _ = _
          rw [FE2.out, shut_no (fun j (hj : j < B0.length) => OA.out j (by rw [hkn, ← bln]; exact hj))]
        have i1' : ¬ (k : Int) < (n : Int) := by omega
        have F2R := Lib.hid (row_below F2.out B.out)
        clear hkn hlt OA bln
        go_wp2_with fail
        refine (VC.out wr BB.out).mono ?_
        rintro e w8 ⟨v8, rfl, sv8, bb⟩
        have F2R := Lib.hid (row_below F2R.out bb)
        have BB := Lib.hid (BB.out.trans (bb.mono BB.out.size))
        have SA := sum_c va v8 w8 sv8 (by have := VAL.out; omega)
        clear bb sv8
        go_wp2_with fail
        refine SA.mono ?_
        rintro e w9 ⟨rfl, rfl⟩
        clear SA
        have SV : Hid (sumV va = .tuple #[.int .u64 (sumL va : Nat), .bool (sumIs va)]) := rfl
        have SW : Hid (sumV vo = .tuple #[.int .u64 (sumL vo : Nat), .bool (sumIs vo)]) := rfl
        have FV : Hid (feeW va vo = if (sumIs va && sumIs vo) = false then (0, 5, none) else if sumL va < sumL vo then (0, 17, none) else (sumL va - sumL vo, 0, none)) := rfl
        have SB : Hid (sumL va ≤ 2100000000000000) := by show _ ≤ _; unfold sumL; split <;> simp_all [most_eq]
        obtain ⟨a, ha⟩ : ∃ a, a = sumL va := ⟨_, rfl⟩
        obtain ⟨b, hb⟩ : ∃ b, b = sumL vo := ⟨_, rfl⟩
        obtain ⟨qa, hqa⟩ : ∃ q, q = sumIs va := ⟨_, rfl⟩
        obtain ⟨qb, hqb⟩ : ∃ q, q = sumIs vo := ⟨_, rfl⟩
        rw [← ha, ← hqa] at SV FV
        rw [← hb, ← hqb] at SW FV
        rw [← ha] at SB
        rw [SV.out]
        clear ha hb hqa hqb
        obtain ⟨_, c2⟩ := CO.out _ _ F2R.out
        go_wp2_with fail
        refine (VO.out w8 BB.out).mono ?_
        rintro e w9 ⟨v9, rfl, sv9, bb⟩
        have BZ := Lib.hid (BB.out.trans (bb.mono BB.out.size))
        have SO := sum_c vo v9 w9 sv9 (by have := VOL.out; omega)
        clear bb sv9 c2
        go_wp2_with fail
        refine SO.mono ?_
        rintro e w10 ⟨rfl, rfl⟩
        clear SO
        rw [SW.out]
        have HE9 := Lib.hid (HE.out.below BZ.out)
        cases qa with
        | false =>
          have RW : Hid (R = (0, 5, none)) := by show _ = _; rw [RV.out, FV.out]; rfl
          have q4 : w9.cell? ⟨2, 0, none⟩ = some (.iface 114 (.pointer (some (E 4)))) := HE9.out 4 (by omega)
          have QE := Lib.hid q4
          clear q4
          go_upto_region 13 with fail
          refine wp_region_held_drew (S := (fun w' => Below w9.heap.size w9 w')) (by kernel_rfl) (Below.drew (Below.refl _ _)) (fun hHeld => ?_)
          generalize hwd : w9.drew = wd at  hHeld ⊢
          clear hwd
          refine held_take (i := 0) (v := (.iface 114 (.pointer (some (E 4))))) rfl (by kernel_rfl) (by kernel_rfl) (by kernel_rfl) (fun _ _ _ h => h) (yieldsIf_load_one (by rfl) 37 _ rfl 2 (0) rfl _ _ (fun w' hw' => cell_below QE.out hw') Tryd.underlying37 rfl) hHeld ?_
          go_frame
          refine held_take (i := 1) (v := (.int .u64 0)) rfl (by kernel_rfl) (by kernel_rfl) (by kernel_rfl) (fun _ _ _ h => h) (Or.inl ⟨by rfl, fun w' _ => by kernel_rfl⟩) hHeld ?_
          go_frame
          refine held_take (i := 2) (v := (.iface 114 (.pointer (some (E 4))))) rfl (by kernel_rfl) (by kernel_rfl) (by kernel_rfl) (fun _ _ _ h => h) (Or.inl ⟨by rfl, fun w' _ => by kernel_rfl⟩) hHeld ?_
          go_frame
          refine wpAnyH_done (by kernel_rfl) ?_ _
          have BY := Lib.hid (BZ.out.trans (hHeld.mono BZ.out.size))
          clear hHeld
          go_wp2_with fail
          go_ret2
          exact ⟨_, by rw [RW.out]; rfl, by rw [RW.out]; exact .inl ⟨rfl, rfl⟩, BY.out⟩
        | true =>
          cases qb with
          | false =>
            have RW : Hid (R = (0, 5, none)) := by show _ = _; rw [RV.out, FV.out]; rfl
            have q4 : w9.cell? ⟨2, 0, none⟩ = some (.iface 114 (.pointer (some (E 4)))) := HE9.out 4 (by omega)
            have QE := Lib.hid q4
            clear q4
            go_upto_region 13 with fail
            refine wp_region_held_drew (S := (fun w' => Below w9.heap.size w9 w')) (by kernel_rfl) (Below.drew (Below.refl _ _)) (fun hHeld => ?_)
            generalize hwd : w9.drew = wd at  hHeld ⊢
            clear hwd
            refine held_take (i := 0) (v := (.iface 114 (.pointer (some (E 4))))) rfl (by kernel_rfl) (by kernel_rfl) (by kernel_rfl) (fun _ _ _ h => h) (yieldsIf_load_one (by rfl) 37 _ rfl 2 (0) rfl _ _ (fun w' hw' => cell_below QE.out hw') Tryd.underlying37 rfl) hHeld ?_
            go_frame
            refine held_take (i := 1) (v := (.int .u64 0)) rfl (by kernel_rfl) (by kernel_rfl) (by kernel_rfl) (fun _ _ _ h => h) (Or.inl ⟨by rfl, fun w' _ => by kernel_rfl⟩) hHeld ?_
            go_frame
            refine held_take (i := 2) (v := (.iface 114 (.pointer (some (E 4))))) rfl (by kernel_rfl) (by kernel_rfl) (by kernel_rfl) (fun _ _ _ h => h) (Or.inl ⟨by rfl, fun w' _ => by kernel_rfl⟩) hHeld ?_
            go_frame
            refine wpAnyH_done (by kernel_rfl) ?_ _
            have BY := Lib.hid (BZ.out.trans (hHeld.mono BZ.out.size))
            clear hHeld
            go_wp2_with fail
            go_ret2
            exact ⟨_, by rw [RW.out]; rfl, by rw [RW.out]; exact .inl ⟨rfl, rfl⟩, BY.out⟩
          | true =>
            by_cases hab : a < b
            · have RW : Hid (R = (0, 17, none)) := by show _ = _; rw [RV.out, FV.out, if_neg (by decide), if_pos hab]
              have l1 : (a : Int) < (b : Int) := by omega
              clear hab
              have q16 : w9.cell? ⟨3, 0, none⟩ = some (.iface 114 (.pointer (some (E 16)))) := HE9.out 16 (by omega)
              have QE := Lib.hid q16
              clear q16
              go_upto_region 15 with fail
              refine wp_region_held_drew (S := (fun w' => Below w9.heap.size w9 w')) (by kernel_rfl) (Below.drew (Below.refl _ _)) (fun hHeld => ?_)
              generalize hwd : w9.drew = wd at  hHeld ⊢
              clear hwd
              refine held_take (i := 0) (v := (.iface 114 (.pointer (some (E 16))))) rfl (by kernel_rfl) (by kernel_rfl) (by kernel_rfl) (fun _ _ _ h => h) (yieldsIf_load_one (by rfl) 37 _ rfl 3 (0) rfl _ _ (fun w' hw' => cell_below QE.out hw') Tryd.underlying37 rfl) hHeld ?_
              go_frame
              refine held_take (i := 1) (v := (.int .u64 0)) rfl (by kernel_rfl) (by kernel_rfl) (by kernel_rfl) (fun _ _ _ h => h) (Or.inl ⟨by rfl, fun w' _ => by kernel_rfl⟩) hHeld ?_
              go_frame
              refine held_take (i := 2) (v := (.iface 114 (.pointer (some (E 16))))) rfl (by kernel_rfl) (by kernel_rfl) (by kernel_rfl) (fun _ _ _ h => h) (Or.inl ⟨by rfl, fun w' _ => by kernel_rfl⟩) hHeld ?_
              go_frame
              refine wpAnyH_done (by kernel_rfl) ?_ _
              have BY := Lib.hid (BZ.out.trans (hHeld.mono BZ.out.size))
              clear hHeld
              go_wp2_with fail
              go_ret2
              exact ⟨_, by rw [RW.out]; rfl, by rw [RW.out]; exact .inl ⟨rfl, rfl⟩, BY.out⟩
            · have RW : Hid (R = (a - b, 0, none)) := by show _ = _; rw [RV.out, FV.out, if_neg (by decide), if_neg hab]
              have l1 : ¬ (a : Int) < (b : Int) := by omega
              have sb : IntKind.u64.wrap ((a : Int) - (b : Int)) = ((a - b : Nat) : Int) := by rw [IntKind.wrap_u64]; have := SB.out; omega
              go_wp2_with fail
              go_ret2
              exact ⟨_, by rw [RW.out]; rfl, by rw [RW.out]; exact .inl ⟨rfl, rfl⟩, BZ.out⟩
  · have q1 : ((nm : Int) != (n : Int)) = true := by simp; omega
    have RV : Hid (R = (0, 2, none)) := by show _ = _; rw [FE.out, if_pos hne]
    clear hne FE
    have HE1 := Lib.hid (HE.out.below B1.out)
    have qe : w1.cell? ⟨0, 0, none⟩ = some (.iface 114 (.pointer (some (E 1)))) := HE1.out 1 (by omega)
    have QE := Lib.hid qe
    clear qe
    go_upto_region 2 with fail
    refine wp_region_held_drew (S := (fun w' => Below w1.heap.size w1 w')) (by kernel_rfl) (Below.drew (Below.refl _ _)) (fun hHeld => ?_)
    generalize hwd : w1.drew = wd at  hHeld ⊢
    clear hwd
    refine held_take (i := 0) (v := (.iface 114 (.pointer (some (E 1))))) rfl (by kernel_rfl) (by kernel_rfl) (by kernel_rfl) (fun _ _ _ h => h) (yieldsIf_load_one (by rfl) 37 _ rfl 0 (0) rfl _ _ (fun w' hw' => cell_below QE.out hw') Tryd.underlying37 rfl) hHeld ?_
    go_frame
    refine held_take (i := 1) (v := (.int .u64 0)) rfl (by kernel_rfl) (by kernel_rfl) (by kernel_rfl) (fun _ _ _ h => h) (Or.inl ⟨by rfl, fun w' _ => by kernel_rfl⟩) hHeld ?_
    go_frame
    refine held_take (i := 2) (v := (.iface 114 (.pointer (some (E 1))))) rfl (by kernel_rfl) (by kernel_rfl) (by kernel_rfl) (fun _ _ _ h => h) (Or.inl ⟨by rfl, fun w' _ => by kernel_rfl⟩) hHeld ?_
    go_frame
    refine wpAnyH_done (by kernel_rfl) ?_ _
    have BZ := Lib.hid (B1.out.trans (hHeld.mono B1.out.size))
    clear hHeld
    go_wp2_with fail
    go_ret2
    exact ⟨_, by rw [RV.out]; rfl, by rw [RV.out]; exact .inl ⟨rfl, rfl⟩, BZ.out⟩
end Go.Proofs.YtlpdgjneoahdeaaDoor.Sha

/-
  An error that is the document's fault is told as that. Conditions: the errors are there.
-/
namespace Go.Proofs.YtlpdgjneoahdeaaDoor.Sha
open Go Go.RowKit
theorem same_flt (E : Nat → Addr) (r : Nat × Option Nat) (v : Value) (w : World) (hE : Errs w E) (hr : r.1 ≤ 25) (hf : FltV w E v r) :
    Calls Tryd.prog 14 #[v, .agg (fltL r).toArray] w fun e w' => e = .returned (.bool true) ∧ Below w.heap.size w w' := by
  obtain ⟨c, o⟩ := r
  rcases hf with ⟨h1, h2⟩ | ⟨q, p, g, h1, h2, h3⟩
  · obtain rfl : o = none := h1
    obtain rfl : v = errV E c := h2
    exact same_err E c (numE c) true (by simp) w hE hr
  · cases h1
    exact same_at E q p v w hE (by have : q + 1 ≤ 25 := hr; omega) (.inr ⟨q, p, g, rfl, h2, h3⟩)
theorem feeR_le (t : TTx) (ms : List TMn) : (feeR t ms).2.1 ≤ 25 := by
  unfold feeR
  generalize (opB t ms).findIdx? (fun b => !b) = o
  split
  · show (2 : Nat) ≤ 25; omega
  · cases o with
    | some i => show (14 : Nat) ≤ 25; omega
    | none =>
      show (feeW _ _).2.1 ≤ 25
      unfold feeW
      split
      · show (5 : Nat) ≤ 25; omega
      · split
        · show (17 : Nat) ≤ 25; omega
        · show (0 : Nat) ≤ 25; omega
theorem fltL_len : ∀ r : Nat × Option Nat, (fltL r).toArray.size = 5
  | (_, none) => rfl
  | (_, some _) => rfl
theorem fltL_all : ∀ r : Nat × Option Nat, (fltL r).toArray.all (·.oneCell') = true
  | (_, none) => fault_all _
  | (_, some _) => placed_all _ _
end Go.Proofs.YtlpdgjneoahdeaaDoor.Sha

/-
  Package value: whether a coin is ripe. Nothing that was there turns. Conditions: numbers that an int holds.
-/
namespace Go.Proofs.YtlpdgjneoahdeaaDoor.Sha
open Go Go.RowKit
set_option maxHeartbeats 1000000 in
set_option maxRecDepth 100000 in
theorem vlripe_any (w : World) (c : TMn) (height maturity : Int) (hc : MnOk c) (h1 : -9223372036854775808 ≤ c.height + maturity) (h2 : c.height + maturity ≤ 9223372036854775807) :
    Calls Tryd.prog 12 #[.agg (mnL c).toArray, .int .i64 height, .int .i64 maturity] w fun e w' => e = .returned (.bool (ripeB c height maturity)) ∧ Below w.heap.size w w' := by
  have hb := range_of_box (heap_alloc_new w (.cells (mnL c).toArray 26 (0, 0)))
  have hh := mn_height hc.1 hb
  have hbs := mn_base hc.1 hb
  have bb := (Below.refl w.heap.size w).alloc (Nat.le_refl _) (.cells (mnL c).toArray 26 (0, 0))
  rw [Nat.zero_add] at hh hbs
  obtain ⟨ans, han⟩ : ∃ ans, ans = ripeB c height maturity := ⟨_, rfl⟩
  have AN : Hid (ans = (!c.base || decide (c.height + maturity ≤ height))) := han
  rw [← han]
  obtain ⟨cm, hcm⟩ : ∃ cm, cm = mnL c := ⟨_, rfl⟩
  rw [← hcm] at hh hbs bb ⊢
  obtain ⟨ht, hht⟩ : ∃ ht, ht = c.height := ⟨_, rfl⟩
  obtain ⟨bs, hbse⟩ : ∃ bs, bs = c.base := ⟨_, rfl⟩
  rw [← hht] at AN hh h1 h2
  rw [← hbse] at AN hbs
  clear hb han hcm hht hbse hc
  go_enter Tryd.func12, Tryd.ntmps12
  go_upto_region 1 with fail
  have hw1 : w.alloc (.cells cm.toArray 26 (0, 0)) = w.alloc (.cells cm.toArray 26 (0, 0)) := rfl
  generalize hq : World.alloc _ _ = w1
  have e1 : w.alloc (.cells cm.toArray 26 (0, 0)) = w1 := hq
  rw [e1] at hh hbs bb
  clear hw1 hq e1
  cases bs with
  | false =>
    go_wp2_with fail
    go_ret
    exact ⟨by rw [AN.out]; rfl, bb⟩
  | true =>
    have hwr : IntKind.i64.wrap (ht + maturity) = ht + maturity := by rw [IntKind.wrap_i64]; omega
    go_wp2_with fail
    go_ret
    exact ⟨by rw [AN.out]; rfl, bb⟩
end Go.Proofs.YtlpdgjneoahdeaaDoor.Sha

/-
  The statements' own reward at a height. Nothing that was there turns. Conditions: numbers that an int holds.
-/
namespace Go.Proofs.YtlpdgjneoahdeaaDoor.Sha
open Go Go.RowKit
set_option maxHeartbeats 1000000 in
set_option maxRecDepth 100000 in
theorem rreward_any (w : World) (height halving : Int) (h0 : -9223372036854775808 ≤ height) (h1 : height ≤ 9223372036854775807) :
    Calls Tryd.prog 11 #[.int .i64 height, .int .i64 halving] w fun e w' => e = .returned (.int .u64 (rewN height halving : Int)) ∧ w = w' := by
  by_cases hn : height < 0
  · have AE : Hid (rewN height halving = 0) := by show _ = _; unfold rewN; rw [if_pos (.inl hn)]
    go_enter Tryd.func11, Tryd.ntmps11
    go_wp2_with fail
    go_ret
    exact ⟨by rw [AE.out]; rfl, rfl⟩
  by_cases hv : halving < 1
  · have AE : Hid (rewN height halving = 0) := by show _ = _; unfold rewN; rw [if_pos (.inr (.inl hv))]
    go_enter Tryd.func11, Tryd.ntmps11
    go_wp2_with fail
    go_ret
    exact ⟨by rw [AE.out]; rfl, rfl⟩
  have hw : IntKind.i64.wrap (height.tdiv halving) = height.tdiv halving := wrap_i64_tdiv height halving (by omega) h1 (by omega)
  have hz : (halving == 0) = false := beq_eq_false_iff_ne.2 (by omega)
  have hp : 0 ≤ height.tdiv halving := Int.tdiv_nonneg (by omega) (by omega)
  obtain ⟨q, hq⟩ : ∃ q : Nat, height.tdiv halving = (q : Int) := ⟨(height.tdiv halving).toNat, by omega⟩
  by_cases h64 : 64 ≤ height.tdiv halving
  · have AE : Hid (rewN height halving = 0) := by show _ = _; unfold rewN; rw [if_pos (.inr (.inr h64))]
    rw [hq] at h64 hw
    go_enter Tryd.func11, Tryd.ntmps11
    go_wp2_with fail
    go_ret
    exact ⟨by rw [AE.out]; rfl, rfl⟩
  have AE : Hid (rewN height halving = 5000000000 / 2 ^ q) := by
    show _ = _
    unfold rewN
    rw [if_neg (by omega), hq, Int.toNat_natCast]
  rw [hq] at h64 hw hp
  have hlt : (q : Int) < 64 := by omega
  go_enter Tryd.func11, Tryd.ntmps11
  go_wp2_with fail
  go_ret
  exact ⟨by rw [AE.out]; rfl, rfl⟩
end Go.Proofs.YtlpdgjneoahdeaaDoor.Sha

/-
  The statements' own: whether a chain's rules may be. Nothing that was there turns. No conditions.
-/
namespace Go.Proofs.YtlpdgjneoahdeaaDoor.Sha
open Go Go.RowKit
set_option maxHeartbeats 1000000 in
set_option maxRecDepth 100000 in
theorem rwithin_any (n lo hi : Int) (w : World) : Calls Tryd.prog 31 #[.int .i64 n, .int .i64 lo, .int .i64 hi] w fun e w' => e = .returned (.bool (okI n lo hi)) ∧ w = w' := by
  by_cases h1 : lo ≤ n
  · by_cases h2 : n ≤ hi
    · have R : Hid (okI n lo hi = true) := by show _ = _; unfold okI; simp [h1, h2]
      go_enter Tryd.func31, Tryd.ntmps31
      go_wp2_with fail
      go_ret
      exact ⟨by rw [R.out]; rfl, rfl⟩
    · have R : Hid (okI n lo hi = false) := by show _ = _; unfold okI; simp [h1, h2]
      go_enter Tryd.func31, Tryd.ntmps31
      go_wp2_with fail
      go_ret
      exact ⟨by rw [R.out]; rfl, rfl⟩
  · have R : Hid (okI n lo hi = false) := by show _ = _; unfold okI; simp [h1]
    go_enter Tryd.func31, Tryd.ntmps31
    go_wp2_with fail
    go_ret
    exact ⟨by rw [R.out]; rfl, rfl⟩
set_option maxHeartbeats 1000000 in
set_option maxRecDepth 100000 in
theorem rrules_any (r : TRu) (w : World) : Calls Tryd.prog 9 #[.agg (ruL r).toArray] w fun e w' => e = .returned (.bool (rulesB r)) ∧ Below w.heap.size w w' := by
  obtain ⟨b0, hb0⟩ : ∃ b, b = okI r.hal 1 1048576 := ⟨_, rfl⟩
  have C0 : Hid (∀ W, Calls Tryd.prog 31 #[.int .i64 r.hal, .int .i64 1, .int .i64 1048576] W fun e w' => e = .returned (.bool b0) ∧ W = w') := fun W => by rw [hb0]; exact rwithin_any _ _ _ W
  obtain ⟨b1, hb1⟩ : ∃ b, b = okI r.mat 0 1000 := ⟨_, rfl⟩
  have C1 : Hid (∀ W, Calls Tryd.prog 31 #[.int .i64 r.mat, .int .i64 0, .int .i64 1000] W fun e w' => e = .returned (.bool b1) ∧ W = w') := fun W => by rw [hb1]; exact rwithin_any _ _ _ W
  obtain ⟨b2, hb2⟩ : ∃ b, b = okI r.pool 1 16777216 := ⟨_, rfl⟩
  have C2 : Hid (∀ W, Calls Tryd.prog 31 #[.int .i64 r.pool, .int .i64 1, .int .i64 16777216] W fun e w' => e = .returned (.bool b2) ∧ W = w') := fun W => by rw [hb2]; exact rwithin_any _ _ _ W
  obtain ⟨b3, hb3⟩ : ∃ b, b = okI r.redo 1 16777216 := ⟨_, rfl⟩
  have C3 : Hid (∀ W, Calls Tryd.prog 31 #[.int .i64 r.redo, .int .i64 1, .int .i64 16777216] W fun e w' => e = .returned (.bool b3) ∧ W = w') := fun W => by rw [hb3]; exact rwithin_any _ _ _ W
  obtain ⟨b4, hb4⟩ : ∃ b, b = okI r.log 1 65536 := ⟨_, rfl⟩
  have C4 : Hid (∀ W, Calls Tryd.prog 31 #[.int .i64 r.log, .int .i64 1, .int .i64 65536] W fun e w' => e = .returned (.bool b4) ∧ W = w') := fun W => by rw [hb4]; exact rwithin_any _ _ _ W
  obtain ⟨b5, hb5⟩ : ∃ b, b = okI r.anc 1 1000 := ⟨_, rfl⟩
  have C5 : Hid (∀ W, Calls Tryd.prog 31 #[.int .i64 r.anc, .int .i64 1, .int .i64 1000] W fun e w' => e = .returned (.bool b5) ∧ W = w') := fun W => by rw [hb5]; exact rwithin_any _ _ _ W
  obtain ⟨b7, hb7⟩ : ∃ b, b = okI r.des 1 1000 := ⟨_, rfl⟩
  have C7 : Hid (∀ W, Calls Tryd.prog 31 #[.int .i64 r.des, .int .i64 1, .int .i64 1000] W fun e w' => e = .returned (.bool b7) ∧ W = w') := fun W => by rw [hb7]; exact rwithin_any _ _ _ W
  obtain ⟨b6, hb6⟩ : ∃ b, b = okI r.ancB 1 16777216 := ⟨_, rfl⟩
  have C6 : Hid (∀ W, Calls Tryd.prog 31 #[.int .i64 r.ancB, .int .i64 1, .int .i64 16777216] W fun e w' => e = .returned (.bool b6) ∧ W = w') := fun W => by rw [hb6]; exact rwithin_any _ _ _ W
  obtain ⟨b8, hb8⟩ : ∃ b, b = okI r.desB 1 16777216 := ⟨_, rfl⟩
  have C8 : Hid (∀ W, Calls Tryd.prog 31 #[.int .i64 r.desB, .int .i64 1, .int .i64 16777216] W fun e w' => e = .returned (.bool b8) ∧ W = w') := fun W => by rw [hb8]; exact rwithin_any _ _ _ W
  have AN : Hid (rulesB r = (b0 && b1 && b2 && b3 && b4 && b5 && b7 && b6 && b8)) := by show _ = _; rw [hb0, hb1, hb2, hb3, hb4, hb5, hb7, hb6, hb8]; rfl
  obtain ⟨ans, han⟩ : ∃ ans, ans = rulesB r := ⟨_, rfl⟩
  rw [← han] at AN ⊢
  obtain ⟨ct, hct⟩ : ∃ ct, ct = ruL r := ⟨_, rfl⟩
  have f1 := heap_alloc_new w (.cells (ruL r).toArray 34 (0, 0))
  have BB : Hid (Below w.heap.size w (w.alloc (.cells (ruL r).toArray 34 (0, 0)))) := (Below.refl w.heap.size w).alloc (Nat.le_refl _) (.cells (ruL r).toArray 34 (0, 0))
  have c0 : (w.alloc (.cells (ruL r).toArray 34 (0, 0))).cell? ⟨w.heap.size, 0, none⟩ = some (.int .i64 r.hal) := by rw [cell_of_row _ _ _ _ _ _ f1]; rfl
  have c1 : (w.alloc (.cells (ruL r).toArray 34 (0, 0))).cell? ⟨w.heap.size, 1, none⟩ = some (.int .i64 r.mat) := by rw [cell_of_row _ _ _ _ _ _ f1]; rfl
  have c2 : (w.alloc (.cells (ruL r).toArray 34 (0, 0))).cell? ⟨w.heap.size, 2, none⟩ = some (.int .i64 r.pool) := by rw [cell_of_row _ _ _ _ _ _ f1]; rfl
  have c3 : (w.alloc (.cells (ruL r).toArray 34 (0, 0))).cell? ⟨w.heap.size, 3, none⟩ = some (.int .i64 r.redo) := by rw [cell_of_row _ _ _ _ _ _ f1]; rfl
  have c4 : (w.alloc (.cells (ruL r).toArray 34 (0, 0))).cell? ⟨w.heap.size, 4, none⟩ = some (.int .i64 r.log) := by rw [cell_of_row _ _ _ _ _ _ f1]; rfl
  have c5 : (w.alloc (.cells (ruL r).toArray 34 (0, 0))).cell? ⟨w.heap.size, 5, none⟩ = some (.int .i64 r.anc) := by rw [cell_of_row _ _ _ _ _ _ f1]; rfl
  have c6 : (w.alloc (.cells (ruL r).toArray 34 (0, 0))).cell? ⟨w.heap.size, 6, none⟩ = some (.int .i64 r.ancB) := by rw [cell_of_row _ _ _ _ _ _ f1]; rfl
  have c7 : (w.alloc (.cells (ruL r).toArray 34 (0, 0))).cell? ⟨w.heap.size, 7, none⟩ = some (.int .i64 r.des) := by rw [cell_of_row _ _ _ _ _ _ f1]; rfl
  have c8 : (w.alloc (.cells (ruL r).toArray 34 (0, 0))).cell? ⟨w.heap.size, 8, none⟩ = some (.int .i64 r.desB) := by rw [cell_of_row _ _ _ _ _ _ f1]; rfl
  rw [← hct] at BB c0 c1 c2 c3 c4 c5 c6 c7 c8 ⊢
  clear f1 hct han hb0 hb1 hb2 hb3 hb4 hb5 hb6 hb7 hb8
  go_enter Tryd.func9, Tryd.ntmps9
  go_upto_region 1 with fail
  generalize hq : World.alloc _ _ = w1
  have e1 : w.alloc (.cells ct.toArray 34 (0, 0)) = w1 := hq
  rw [e1] at BB c0 c1 c2 c3 c4 c5 c6 c7 c8
  clear hq e1
  go_wp2_with fail
  refine (C0.out _).mono ?_
  rintro e w2 ⟨rfl, rfl⟩
  cases b0 with
  | false =>
    go_wp2_with fail
    go_ret
    exact ⟨by rw [AN.out]; rfl, BB.out⟩
  | true =>
    go_wp2_with fail
    refine (C1.out _).mono ?_
    rintro e w2 ⟨rfl, rfl⟩
    cases b1 with
    | false =>
      go_wp2_with fail
      go_ret
      exact ⟨by rw [AN.out]; rfl, BB.out⟩
    | true =>
      go_wp2_with fail
      refine (C2.out _).mono ?_
      rintro e w2 ⟨rfl, rfl⟩
      cases b2 with
      | false =>
        go_wp2_with fail
        go_ret
        exact ⟨by rw [AN.out]; rfl, BB.out⟩
      | true =>
        go_wp2_with fail
        refine (C3.out _).mono ?_
        rintro e w2 ⟨rfl, rfl⟩
        cases b3 with
        | false =>
          go_wp2_with fail
          go_ret
          exact ⟨by rw [AN.out]; rfl, BB.out⟩
        | true =>
          go_wp2_with fail
          refine (C4.out _).mono ?_
          rintro e w2 ⟨rfl, rfl⟩
          cases b4 with
          | false =>
            go_wp2_with fail
            go_ret
            exact ⟨by rw [AN.out]; rfl, BB.out⟩
          | true =>
            go_wp2_with fail
            refine (C5.out _).mono ?_
            rintro e w2 ⟨rfl, rfl⟩
            cases b5 with
            | false =>
              go_wp2_with fail
              go_ret
              exact ⟨by rw [AN.out]; rfl, BB.out⟩
            | true =>
              go_wp2_with fail
              refine (C7.out _).mono ?_
              rintro e w2 ⟨rfl, rfl⟩
              cases b7 with
              | false =>
                go_wp2_with fail
                go_ret
                exact ⟨by rw [AN.out]; rfl, BB.out⟩
              | true =>
                go_wp2_with fail
                refine (C6.out _).mono ?_
                rintro e w2 ⟨rfl, rfl⟩
                cases b6 with
                | false =>
                  go_wp2_with fail
                  go_ret
                  exact ⟨by rw [AN.out]; rfl, BB.out⟩
                | true =>
                  go_wp2_with fail
                  refine (C8.out _).mono ?_
                  rintro e w2 ⟨rfl, rfl⟩
                  cases b8 with
                  | false =>
                    go_wp2_with fail
                    go_ret
                    exact ⟨by rw [AN.out]; rfl, BB.out⟩
                  | true =>
                    go_wp2_with fail
                    go_ret
                    exact ⟨by rw [AN.out]; rfl, BB.out⟩
end Go.Proofs.YtlpdgjneoahdeaaDoor.Sha
