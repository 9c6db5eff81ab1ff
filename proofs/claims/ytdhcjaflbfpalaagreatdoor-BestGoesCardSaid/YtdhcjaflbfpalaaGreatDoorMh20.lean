/-
  Texts of this proof joined into one file: MkRootRef, BlRefStart, TwGrow, BoSt, BaSort, GIter. What each holds, and under which conditions, its own first sentence tells.
-/
import Derived.Sort.Statements
import Derived.Test.YtdhcjaflbfpalaaGreatDoorMh08
import Derived.Test.YtdhcjaflbfpalaaGreatDoorMh19
import Derived.Test.YtdhcjaflbfpalaaGreatDoorMh04
import Derived.Test.YtdhcjaflbfpalaaGreatDoorMh07
import Derived.Test.YtdhcjaflbfpalaaGreatDoorMh11
import Derived.Test.YtdhcjaflbfpalaaGreatDoorMh12
import Derived.Test.YtdhcjaflbfpalaaGreatDoorMh01
import Derived.Test.YtdhcjaflbfpalaaGreatDoorMh10
import Derived.Test.YtdhcjaflbfpalaaGreatDoorMh13
import Derived.Test.YtdhcjaflbfpalaaGreatDoorMh15
/-
  The statements' own Root answers the root. Nothing that was there turns. Conditions: the digests lie where the slice says; at most 2^20 of them.
-/
namespace Go.Proofs.YtdhcjaflbfpalaaGreatDoor.Sha
open Go Go.RowKit
def rootRInv (R : List UInt8) (w : World) (vl : Value) (wr : World) : Prop :=
  ∃ l' : List (List UInt8), HsAt wr vl l' ∧ 1 ≤ l'.length ∧ l'.length ≤ 1048576 ∧ rootL prH zM l' = R ∧ Below w.heap.size w wr ∧ wr.heap[w.heap.size]? = some (.cells (List.replicate 32 (bV 0)).toArray 26 (0, 0))
set_option maxHeartbeats 2000000 in
set_option maxRecDepth 100000 in
theorem rootR_any (l : List (List UInt8)) (sp : Option Addr) (n cap : Nat) (w : World) (hl : HsAt w (.slice sp n cap) l) (hn : n ≤ 1048576) :
    Calls Tryz.prog 49 #[.slice sp n cap] w fun e w' => e = .returned (.agg ((rootL prH zM l).map bV).toArray) ∧ Below w.heap.size w w' := by
  have hlen := rootL_len _ l rfl hl.1
  have hln := hl.len.1
  have h0r : n = 0 → rootL prH zM l = zM := fun h => by
    rw [rootL_one prH zM (by omega), List.getD_eq_getElem?_getD, List.getElem?_eq_none (by omega)]
    rfl
  obtain ⟨R, hR⟩ : ∃ R, R = rootL prH zM l := ⟨_, rfl⟩
  rw [← hR] at hlen h0r ⊢
  have HR := Lib.hid hR
  have HS : Hid ((R.map bV).toArray.size = 32) := by show _ = _; simp [hlen]
  have HLR : Hid ((R.map bV).length = 32) := by show _ = _; simp [hlen]
  have HZ := Lib.hid h0r
  have HL := Lib.hid hl
  have HN := Lib.hid hln

  clear hR hlen hl hln h0r
  go_enter Tryz.func49, Tryz.ntmps49
  go_upto_region 1 with fail
  have F := Lib.hid (heap_alloc_new w (.cells (List.replicate 32 (bV 0)).toArray 26 (0, 0)))
  have B := Lib.hid ((Below.refl w.heap.size w).alloc (Nat.le_refl _) (.cells (List.replicate 32 (bV 0)).toArray 26 (0, 0)))
  generalize hw1 : World.alloc _ _ = w1
  have e1 : w.alloc (.cells (List.replicate 32 (bV 0)).toArray 26 (0, 0)) = w1 := hw1
  rw [e1] at F B
  clear hw1 e1
  by_cases h0 : n = 0
  · have t0 : ((n : Int) == 0) = true := by rw [beq_iff_eq]; omega
    obtain rfl : R = zM := HZ.out h0
    clear h0
    go_wp2_with ((with_reducible show wpList _ _ _ _ _ _); refine wpList_store_row rfl 26 (.tmp 2) (.tmp 6) rfl w.heap.size (zM.map bV).toArray rfl rfl 26 _ F.out (by rw [HS.out]; kernel_rfl) (by rw [HS.out]; rfl) (bV_one _) ?_; go_frame)
    refine bodyPost_ret (results_cell_row rfl _ _ w.heap.size 26 (zM.map bV).toArray (0, 0) (.array 32 5) rfl (setRow_heap _ _ _ _ _ _ F.out) Tryz.underlying26 rfl (by rw [HS.out]; kernel_rfl)) rfl ⟨rfl, below_setRow B.out (Nat.le_refl _) _⟩
  · have t0 : ((n : Int) == 0) = false := by rw [beq_eq_false_iff_ne]; omega
    have h1 : 1 ≤ n := by omega
    clear h0
    go_wp2_with fail
    go_loopw [0] (fun vl wr => rootRInv R w vl wr) (fun vl _ => slLen vl)
    case atStart => exact ⟨l, HL.out.below B.out, by have := HN.out; omega, by have := HN.out; omega, HR.out.symm, B.out, F.out⟩
    case round =>
      clear F B HL HN HR
      obtain ⟨l', hl, hm1, hm2, hr, hb, hf⟩ := hrel
      obtain ⟨sp', cap', rfl⟩ := hl.shape
      obtain ⟨m, hm⟩ : ∃ m, m = l'.length := ⟨_, rfl⟩
      rw [← hm] at hl hm1 hm2 ⊢
      have HL := Lib.hid hl
      have HM := Lib.hid hm
      have HR := Lib.hid hr
      have B := Lib.hid hb
      have F := Lib.hid hf
      clear hl hm hr hb hf
      by_cases h1m : 1 < m
      · have t1 : (m : Int) > 1 := by omega
        go_wp2_with fail
        refine (row_ref l' sp' m cap' _ HL.out hm2).mono ?_
        rintro e w2 ⟨v2, rfl, ho, hb2⟩
        obtain ⟨sp2, cap2, rfl⟩ := ho.at.shape
        obtain ⟨m2, hm3⟩ : ∃ m2, m2 = (rowL prH l').length := ⟨_, rfl⟩
        have hm4 : m2 = (m + 1) / 2 := by rw [hm3, rowL_length, ← HM.out]
        have HO := Lib.hid ho
        rw [← hm3] at HO ⊢
        have HM3 := Lib.hid hm3
        have B2 := Lib.hid (B.out.trans (hb2.mono B.out.size))
        have F2 := Lib.hid (row_below F.out hb2)
        have hm5 : 1 ≤ m2 := by omega
        have hm6 : m2 < m := by omega
        have HR2 : Hid (rootL prH zM (rowL prH l') = R) := by
          show _ = _
          rw [← rootL_more prH zM (by rw [← HM.out]; exact h1m)]
          exact HR.out
        clear ho hm3 hb2 hm4
        go_wp2_with fail
        go_roundw
        case rel => exact ⟨rowL prH l', HO.out.at, by rw [← HM3.out]; exact hm5, by rw [← HM3.out]; omega, HR2.out, B2.out, F2.out⟩
        case measure => exact hm6
      · have t1 : ¬ (m : Int) > 1 := by omega
        obtain rfl : m = 1 := by omega
        obtain ⟨b, o, rfl, hbw, hg⟩ := HL.out.get (by omega)
        have X : Hid (wr.rangeAt b o (R.map bV)) := by
          have h := hg 0 (by omega)
          rw [Nat.zero_mul, Nat.add_zero, getD_any (by have := HM.out; omega), ← rootL_one prH zM (by have := HM.out; omega), HR.out] at h
          exact h
        clear hg
        go_wp2_with ((with_reducible show wpList _ _ _ _ _ _); first | (refine wpList_load_mid rfl 26 (.tmp 13) rfl b o rfl (R.map bV) _ X.out Tryz.underlying26 rfl (by rw [HLR.out]; kernel_rfl) ?_; go_frame) | (refine wpList_store_row rfl 26 (.tmp 2) (.tmp 14) rfl w.heap.size (R.map bV).toArray rfl rfl 26 _ F.out (by rw [HS.out]; kernel_rfl) (by rw [HS.out]; rfl) (bV_one _) ?_; go_frame))
        refine bodyPost_ret (results_cell_row rfl _ _ w.heap.size 26 (R.map bV).toArray (0, 0) (.array 32 5) rfl (setRow_heap _ _ _ _ _ _ F.out) Tryz.underlying26 rfl (by rw [HS.out]; kernel_rfl)) rfl ⟨rfl, below_setRow B.out (Nat.le_refl _) _⟩
end Go.Proofs.YtdhcjaflbfpalaaGreatDoor.Sha

/-
  The statements' own first transaction, their own block that each chain begins with. New memory; nothing that was there turns. Conditions: the bytes that are added lie where the slice says.
-/
namespace Go.Proofs.YtdhcjaflbfpalaaGreatDoor.Sha
open Go Go.RowKit
theorem rootR_v (l : List (List UInt8)) (R : List UInt8) (v : Value) (w : World) (h : HsAt w v l) (hn : l.length ≤ 1048576) (hR : rootL prH zM l = R) :
    Calls Tryz.prog 49 #[v] w fun e w' => e = .returned (.agg (R.map bV).toArray) ∧ Below w.heap.size w w' := by
  obtain ⟨sp, cap, rfl⟩ := h.shape
  rw [← hR]
  exact rootR_any l sp _ cap w h hn
theorem own_keyAt {w : World} {base : Nat} {v : Value} {key : List UInt8} (h : w.ownsRow base 5 1 v key.length (key.map bV)) : KeyAt w v key ∧ ∀ sp n cap, v = .slice (some sp) n cap → base ≤ sp.block := by
  refine ⟨⟨src_own h, ?_⟩, fun sp n cap hv => ?_⟩
  · rcases h.2 with ⟨rfl, hn⟩ | ⟨g, cap, cur, rfl, _⟩
    · exact ⟨_, _, by rw [hn]⟩
    · exact ⟨_, _, rfl⟩
  · have := h.lt sp.block (by rw [hv]; rfl)
    exact this.1
set_option maxHeartbeats 4000000 in
set_option maxRecDepth 100000 in
theorem rfirst_any (h : Int) (h32 val : Nat) (lock ex : List UInt8) (ve : Value) (w : World) (hh : IntKind.u32.wrap h = (h32 : Int)) (h3 : h32 ≤ 4294967295) (hv : val ≤ 18446744073709551615) (hl : lock.length = 32) (hs : SrcB w ve ex) (he : ex.length ≤ 70368744170000) :
    Calls Tryz.prog 30 #[.int .i64 h, .int .u64 (val : Int), .agg (lock.map bV).toArray, ve] w fun e w' => ∃ v', e = .returned v' ∧ TxNew w w' v' (firstT h32 val lock ex) ∧ Below w.heap.size w w' := by
  obtain ⟨i0, hi, hz0, hz1, hz2⟩ := info_parts info_u8
  obtain ⟨i2, hi2, hx0, hx1, hx2⟩ := info_parts info_in
  obtain ⟨i3, hi3, hv0, hv1, hv2⟩ := info_parts info_out
  obtain ⟨se, ne, ce, rfl, q1, q2⟩ := hs.shape'
  clear q1 q2
  have H32 := Lib.hid h3
  have LK := Lib.hid hl
  have LL : Hid ((lock.map bV).toArray.size = 32) := by show _ = _; simp [hl]
  have LO : Hid ((outL ⟨val, lock⟩).length = 33) := outL_length _ hl
  have VB := Lib.hid hv
  have SE := Lib.hid hs
  have LE := Lib.hid he
  clear hl hs he hv h3
  go_enter Tryz.func30, Tryz.ntmps30
  go_upto_region 1 with fail
  have f1 := row_below (heap_alloc_new w (.cells (lock.map bV).toArray 26 (0, 0))) ((Below.refl _ _).alloc (Nat.le_refl _) (.cells [nV 0, .slice none 0 0, .slice none 0 0, nV 0].toArray 63))
  have f2 := heap_alloc_new (w.alloc (.cells (lock.map bV).toArray 26 (0, 0))) (.cells [nV 0, .slice none 0 0, .slice none 0 0, nV 0].toArray 63)
  have b1 := ((Below.refl w.heap.size w).alloc (Nat.le_refl _) (.cells (lock.map bV).toArray 26 (0, 0))).alloc (by simp) (.cells [nV 0, .slice none 0 0, .slice none 0 0, nV 0].toArray 63)
  rw [World.size_alloc] at f2
  generalize hw1 : World.alloc _ _ = w1
  have e1 : (w.alloc (.cells (lock.map bV).toArray 26 (0, 0))).alloc (.cells [nV 0, .slice none 0 0, .slice none 0 0, nV 0].toArray 63) = w1 := hw1
  rw [e1] at f1 f2 b1
  have F1 := Lib.hid f1
  have FT := Lib.hid f2
  have B1 := Lib.hid b1
  have LT1 : Hid (w.heap.size + 1 < w1.heap.size) := (Array.getElem?_eq_some_iff.1 f2).1
  clear f1 f2 b1 hw1 e1
  go_wp2_with fail
  refine (rfour_g h32 w1.heap.size [] _ w1 H32.out (Nat.le_refl _) (by simp) (World.ownsRow_nil _ _ _ _)).mono ?_
  rintro e w4 ⟨v4, rfl, hg4⟩
  have G4 := Lib.hid hg4
  have F1 := Lib.hid (row_far F1.out hg4.2.1 (by intro h; cases h))
  have FT := Lib.hid (row_far FT.out hg4.2.1 (by intro h; cases h))
  clear hg4
  go_upto_region 2 with ((with_reducible show wpList _ _ _ _ _ _); refine wpList_append_g _ rfl (.tmp 12) (.tmp 13) 89 rfl w1.heap.size 5 i0 Tryz.underlying89 hi hz0 hz1 hz2 _ _ _ (by rfl) G4.out.1 (.slice se ne ce) ex (by rfl) ((SE.out.below B1.out).below (G4.out.below (fun k hk => by cases hk) (Nat.le_refl _))) (by have := LE.out; simp [leB_length]; omega) G4.out.2.2.2 ?_; intro v5 w5 a1 a2 a3; have A1 := Lib.hid a1; have A2 := Lib.hid a2; have A3 := Lib.hid (G4.out.app a1 a2 a3); clear a1 a2 a3; go_frame)
  have LO4 : Hid (∀ k, v4.ownBlock = some k → w1.heap.size ≤ k) := fun k hk => (G4.out.1.lt k hk).1
  have F1 := Lib.hid (row_far F1.out A2.out (by intro h; have := LO4.out _ h; have := LT1.out; omega))
  have FT := Lib.hid (row_far FT.out A2.out (by intro h; have := LO4.out _ h; have := LT1.out; omega))
  have B5 : Hid (Below w.heap.size w w5) := B1.out.trans ((A3.out.below (fun k hk => by cases hk) B1.out.size))
  obtain ⟨kk, hk5⟩ := own_keyAt (key := leB h32 4 ++ ex) (show w5.ownsRow w1.heap.size 5 1 v5 (leB h32 4 ++ ex).length ((leB h32 4 ++ ex).map bV) from A3.out.1)
  obtain ⟨sk, nk, ck, rfl, q1, q2⟩ := kk.1.shape'
  have KK := Lib.hid kk
  have GK : Hid (∀ sp, sk = some sp → w.heap.size + 1 < sp.block) := fun sp e => by subst e; have := hk5 _ _ _ rfl; have := LT1.out; omega
  clear kk hk5 q1 q2 A1 A2 A3 G4 LO4
  refine wp_region_held_drew (S := (fun w' => Below w.heap.size w w' ∧ w'.heap[w.heap.size]? = some (.cells (lock.map bV).toArray 26 (0, 0)))) (by kernel_rfl) (⟨Below.drew B5.out, F1.out⟩) (fun hHeld => ?_)
  have FT : Hid (w5.drew.heap[w.heap.size + 1]? = some (.cells [nV 0, .slice none 0 0, .slice none 0 0, nV 0].toArray 63 (0, 0))) := FT.out
  have KK : Hid (KeyAt w5.drew (.slice sk nk ck) (leB h32 4 ++ ex)) := KK.out
  generalize hwd : w5.drew = wd at FT KK hHeld ⊢
  clear hwd
  refine held_take (i := 1) (v := (.slice sk nk ck)) rfl (by kernel_rfl) (by kernel_rfl) (by kernel_rfl) (fun _ _ _ h => h) (Or.inl ⟨by rfl, fun w' _ => by kernel_rfl⟩) hHeld ?_
  go_frame
  refine held_take (i := 4) (v := (.int .u64 (val : Int))) rfl (by kernel_rfl) (by kernel_rfl) (by kernel_rfl) (fun _ _ _ h => h) (Or.inl ⟨by rfl, fun w' _ => by kernel_rfl⟩) hHeld ?_
  go_frame
  refine held_take (i := 5) (v := (.agg (lock.map bV).toArray)) rfl (by kernel_rfl) (by kernel_rfl) (by kernel_rfl) (fun _ _ _ h => h) (yieldsIf_load_row (by rfl) 26 (.tmp 6) rfl w.heap.size rfl 26 (lock.map bV).toArray (0, 0) _ (fun w' hw' => hw'.2) Tryz.underlying26 rfl (by rw [LL.out]; kernel_rfl)) hHeld ?_
  go_frame
  refine held_take (i := 6) (v := (.agg (outL ⟨val, lock⟩).toArray)) rfl (by kernel_rfl) (by kernel_rfl) (by kernel_rfl) (fun _ _ _ h => h) (yieldsIf_build (by rfl) 116 _ rfl [(0, .int .u64 (val : Int)), (1, .agg (lock.map bV).toArray)] (by kernel_rfl) _ (built_outl val lock LK.out)) hHeld ?_
  go_frame
  refine wpAnyH_ready (rs := [0, 7]) (by kernel_rfl) (by simp) (held_cons rfl (fun K hK => ?_) (held_cons rfl (fun K hK => ?_) AllReadyH.nil))
  · skip
    go_simp
    refine (rnull_any _).mono ?_
    rintro e v1 ⟨rfl, bb⟩
    have FT := Lib.hid (row_below FT.out bb)
    have KK := Lib.hid (KK.out.below bb)
    have hv1 := (show _ ∧ _ from ⟨hHeld.1.trans (bb.mono hHeld.1.size), row_below hHeld.2 bb⟩)
    clear bb hHeld
    go_wp2_with fail
    refine hK.out _ _ hv1 (fun hHeld => ?_)
    clear hK K hv1
    refine held_take (i := 2) (v := (.agg (inL (firstX h32 ex) (.slice sk nk ck)).toArray)) rfl (by kernel_rfl) (by kernel_rfl) (by kernel_rfl) (fun _ _ _ h => h) (yieldsIf_build (by rfl) 114 _ rfl [(0, .agg nullL.toArray), (1, .slice sk nk ck), (2, .int .u32 4294967295)] (by kernel_rfl) _ (by kernel_rfl)) hHeld ?_
    go_frame
    refine wpAnyH_ready (rs := [3, 7]) (by kernel_rfl) (by simp) (held_cons rfl (fun K hK => ?_) (held_cons rfl (fun K hK => ?_) AllReadyH.nil))
    · skip
      rw [if_pos (by rfl)]
      refine wp_slice_one 60 114 (.tmp 17) rfl (inL (firstX h32 ex) (.slice sk nk ck)) rfl Tryz.underlying60 i2 _ hi2 hx0 (by rw [hx1]; rfl) (by show 0 < 35; omega) (by show 35 ≤ _; omega) ?_
      have nf := heap_alloc_new v1 (.cells (inL (firstX h32 ex) (.slice sk nk ck)).toArray 114 (0, 0))
      have bb := (Below.refl v1.heap.size v1).alloc (Nat.le_refl _) (.cells (inL (firstX h32 ex) (.slice sk nk ck)).toArray 114 (0, 0))
      obtain ⟨gv2, hgv2⟩ : ∃ g, g = v1.heap.size := ⟨_, rfl⟩
      generalize hqv2 : World.alloc _ _ = v2
      have ev2 : v1.alloc (.cells (inL (firstX h32 ex) (.slice sk nk ck)).toArray 114 (0, 0)) = v2 := hqv2
      rw [ev2] at nf bb
      rw [← hgv2] at nf ⊢
      have NI := Lib.hid nf
      have GNI : Hid (w.heap.size + 1 < gv2) := by show _ < _; rw [hgv2]; exact (Array.getElem?_eq_some_iff.1 FT.out).1
      have FT := Lib.hid (row_below FT.out bb)
      have KK := Lib.hid (KK.out.below bb)
      have hv2 := (show _ ∧ _ from ⟨hHeld.1.trans (bb.mono hHeld.1.size), row_below hHeld.2 bb⟩)
      clear nf bb hqv2 ev2 hgv2 hHeld
      go_frame
      refine hK.out _ _ hv2 (fun hHeld => ?_)
      clear hK K hv2
      refine wpAnyH_ready (rs := [7]) (by kernel_rfl) (by simp) (held_cons rfl (fun K hK => ?_) AllReadyH.nil)
      rw [if_pos (by rfl)]
      refine wp_slice_one 61 116 (.tmp 21) rfl (outL ⟨val, lock⟩) rfl Tryz.underlying61 i3 _ hi3 hv0 (by rw [hv1, LO.out]) (by rw [LO.out]; omega) (by rw [LO.out]; omega) ?_
      have nf := heap_alloc_new v2 (.cells (outL ⟨val, lock⟩).toArray 116 (0, 0))
      have bb := (Below.refl v2.heap.size v2).alloc (Nat.le_refl _) (.cells (outL ⟨val, lock⟩).toArray 116 (0, 0))
      obtain ⟨gv3, hgv3⟩ : ∃ g, g = v2.heap.size := ⟨_, rfl⟩
      generalize hqv3 : World.alloc _ _ = v3
      have ev3 : v2.alloc (.cells (outL ⟨val, lock⟩).toArray 116 (0, 0)) = v3 := hqv3
      rw [ev3] at nf bb
      rw [← hgv3] at nf ⊢
      have NO := Lib.hid nf
      have GNO : Hid (w.heap.size + 1 < gv3) := by show _ < _; rw [hgv3]; exact (Array.getElem?_eq_some_iff.1 FT.out).1
      have FT := Lib.hid (row_below FT.out bb)
      have KK := Lib.hid (KK.out.below bb)
      have NI := Lib.hid (row_below NI.out bb)
      have hv3 := (show _ ∧ _ from ⟨hHeld.1.trans (bb.mono hHeld.1.size), row_below hHeld.2 bb⟩)
      clear nf bb hqv3 ev3 hgv3 hHeld
      go_frame
      refine hK.out _ _ hv3 (fun hHeld => ?_)
      clear hK K hv3
      refine held_take (i := 8) (v := (.agg ([nV 1, (.slice (some ⟨gv2, 0, none⟩) 1 1), (.slice (some ⟨gv3, 0, none⟩) 1 1), nV 0]).toArray)) rfl (by kernel_rfl) (by kernel_rfl) (by kernel_rfl) (fun _ _ _ h => h) (yieldsIf_build (by rfl) 63 _ rfl [(0, .int .u32 1), (1, (.slice (some ⟨gv2, 0, none⟩) 1 1)), (2, (.slice (some ⟨gv3, 0, none⟩) 1 1))] (by kernel_rfl) _ (by kernel_rfl)) hHeld ?_
      go_frame
      refine wpAnyH_ready (rs := [9]) (by kernel_rfl) (by simp) (held_cons rfl (fun K hK => ?_) AllReadyH.nil)
      rw [if_pos (by rfl)]
      refine wp_store_whole 63 (.tmp 8) (.tmp 23) rfl (w.heap.size + 1) [nV 0, .slice none 0 0, .slice none 0 0, nV 0] [nV 1, (.slice (some ⟨gv2, 0, none⟩) 1 1), (.slice (some ⟨gv3, 0, none⟩) 1 1), nV 0] 63 rfl rfl (rfl) FT.out (by kernel_rfl) (by kernel_rfl) ?_
      intro v4 q1 q2
      have FT := Lib.hid q1
      have KK := Lib.hid (KeyAt.off KK.out (fun sp n cap hv _ hq => by cases hv; have e : w.heap.size + 1 = sp.block := Option.some.inj hq; have := GK.out sp rfl; omega) q2)
      have NI := Lib.hid (row_far NI.out q2 (by intro h; have := Option.some.inj h; have := GNI.out; omega))
      have NO := Lib.hid (row_far NO.out q2 (by intro h; have := Option.some.inj h; have := GNO.out; omega))
      have hv4 := (show _ ∧ _ from ⟨hHeld.1.grown q2 hHeld.1.size (fun k hk => by cases hk; omega), row_far hHeld.2 q2 (by intro h; have := Option.some.inj h; omega)⟩)
      clear q1 q2 hHeld
      go_frame
      refine hK.out _ _ hv4 (fun hHeld => ?_)
      clear hK K hv4
      refine wpAnyH_done (by kernel_rfl) ?_ _
      have BZ := Lib.hid hHeld.1
      clear hHeld
      go_wp2_with fail
      refine bodyPost_ret (results_cell_row rfl _ _ (w.heap.size + 1) 63 ([nV 1, (.slice (some ⟨gv2, 0, none⟩) 1 1), (.slice (some ⟨gv3, 0, none⟩) 1 1), nV 0]).toArray (0, 0) _ rfl FT.out Tryz.underlying63 rfl (by kernel_rfl)) rfl ?_
      exact ⟨_, rfl, fun W hW => ⟨⟨by show 1 ≤ _; omega, by show 0 ≤ _; omega⟩, _, _, rfl, insAt_one (row_kps NI.out hW (by have := GNI.out; show _ ≤ _; omega)) (x := firstX h32 ex) (firstX_ok ex H32.out) (KK.out.kps (fun sp n cap hv _ => by cases hv; have := GK.out sp rfl; show w.heap.size ≤ sp.block; omega) hW), outsAt_one (row_kps NO.out hW (by have := GNO.out; show _ ≤ _; omega)) (y := ⟨val, lock⟩) ⟨LK.out, VB.out⟩⟩, BZ.out⟩
    · skip
      rw [if_pos (by rfl)]
      refine wp_slice_one 61 116 (.tmp 21) rfl (outL ⟨val, lock⟩) rfl Tryz.underlying61 i3 _ hi3 hv0 (by rw [hv1, LO.out]) (by rw [LO.out]; omega) (by rw [LO.out]; omega) ?_
      have nf := heap_alloc_new v1 (.cells (outL ⟨val, lock⟩).toArray 116 (0, 0))
      have bb := (Below.refl v1.heap.size v1).alloc (Nat.le_refl _) (.cells (outL ⟨val, lock⟩).toArray 116 (0, 0))
      obtain ⟨gv5, hgv5⟩ : ∃ g, g = v1.heap.size := ⟨_, rfl⟩
      generalize hqv5 : World.alloc _ _ = v5
      have ev5 : v1.alloc (.cells (outL ⟨val, lock⟩).toArray 116 (0, 0)) = v5 := hqv5
      rw [ev5] at nf bb
      rw [← hgv5] at nf ⊢
      have NO := Lib.hid nf
      have GNO : Hid (w.heap.size + 1 < gv5) := by show _ < _; rw [hgv5]; exact (Array.getElem?_eq_some_iff.1 FT.out).1
      have FT := Lib.hid (row_below FT.out bb)
      have KK := Lib.hid (KK.out.below bb)
      have hv5 := (show _ ∧ _ from ⟨hHeld.1.trans (bb.mono hHeld.1.size), row_below hHeld.2 bb⟩)
      clear nf bb hqv5 ev5 hgv5 hHeld
      go_frame
      refine hK.out _ _ hv5 (fun hHeld => ?_)
      clear hK K hv5
      refine wpAnyH_ready (rs := [3]) (by kernel_rfl) (by simp) (held_cons rfl (fun K hK => ?_) AllReadyH.nil)
      rw [if_pos (by rfl)]
      refine wp_slice_one 60 114 (.tmp 17) rfl (inL (firstX h32 ex) (.slice sk nk ck)) rfl Tryz.underlying60 i2 _ hi2 hx0 (by rw [hx1]; rfl) (by show 0 < 35; omega) (by show 35 ≤ _; omega) ?_
      have nf := heap_alloc_new v5 (.cells (inL (firstX h32 ex) (.slice sk nk ck)).toArray 114 (0, 0))
      have bb := (Below.refl v5.heap.size v5).alloc (Nat.le_refl _) (.cells (inL (firstX h32 ex) (.slice sk nk ck)).toArray 114 (0, 0))
      obtain ⟨gv6, hgv6⟩ : ∃ g, g = v5.heap.size := ⟨_, rfl⟩
      generalize hqv6 : World.alloc _ _ = v6
      have ev6 : v5.alloc (.cells (inL (firstX h32 ex) (.slice sk nk ck)).toArray 114 (0, 0)) = v6 := hqv6
      rw [ev6] at nf bb
      rw [← hgv6] at nf ⊢
      have NI := Lib.hid nf
      have GNI : Hid (w.heap.size + 1 < gv6) := by show _ < _; rw [hgv6]; exact (Array.getElem?_eq_some_iff.1 FT.out).1
      have FT := Lib.hid (row_below FT.out bb)
      have KK := Lib.hid (KK.out.below bb)
      have NO := Lib.hid (row_below NO.out bb)
      have hv6 := (show _ ∧ _ from ⟨hHeld.1.trans (bb.mono hHeld.1.size), row_below hHeld.2 bb⟩)
      clear nf bb hqv6 ev6 hgv6 hHeld
      go_frame
      refine hK.out _ _ hv6 (fun hHeld => ?_)
      clear hK K hv6
      refine held_take (i := 8) (v := (.agg ([nV 1, (.slice (some ⟨gv6, 0, none⟩) 1 1), (.slice (some ⟨gv5, 0, none⟩) 1 1), nV 0]).toArray)) rfl (by kernel_rfl) (by kernel_rfl) (by kernel_rfl) (fun _ _ _ h => h) (yieldsIf_build (by rfl) 63 _ rfl [(0, .int .u32 1), (1, (.slice (some ⟨gv6, 0, none⟩) 1 1)), (2, (.slice (some ⟨gv5, 0, none⟩) 1 1))] (by kernel_rfl) _ (by kernel_rfl)) hHeld ?_
      go_frame
      refine wpAnyH_ready (rs := [9]) (by kernel_rfl) (by simp) (held_cons rfl (fun K hK => ?_) AllReadyH.nil)
      rw [if_pos (by rfl)]
      refine wp_store_whole 63 (.tmp 8) (.tmp 23) rfl (w.heap.size + 1) [nV 0, .slice none 0 0, .slice none 0 0, nV 0] [nV 1, (.slice (some ⟨gv6, 0, none⟩) 1 1), (.slice (some ⟨gv5, 0, none⟩) 1 1), nV 0] 63 rfl rfl (rfl) FT.out (by kernel_rfl) (by kernel_rfl) ?_
      intro v7 q1 q2
      have FT := Lib.hid q1
      have KK := Lib.hid (KeyAt.off KK.out (fun sp n cap hv _ hq => by cases hv; have e : w.heap.size + 1 = sp.block := Option.some.inj hq; have := GK.out sp rfl; omega) q2)
      have NO := Lib.hid (row_far NO.out q2 (by intro h; have := Option.some.inj h; have := GNO.out; omega))
      have NI := Lib.hid (row_far NI.out q2 (by intro h; have := Option.some.inj h; have := GNI.out; omega))
      have hv7 := (show _ ∧ _ from ⟨hHeld.1.grown q2 hHeld.1.size (fun k hk => by cases hk; omega), row_far hHeld.2 q2 (by intro h; have := Option.some.inj h; omega)⟩)
      clear q1 q2 hHeld
      go_frame
      refine hK.out _ _ hv7 (fun hHeld => ?_)
      clear hK K hv7
      refine wpAnyH_done (by kernel_rfl) ?_ _
      have BZ := Lib.hid hHeld.1
      clear hHeld
      go_wp2_with fail
      refine bodyPost_ret (results_cell_row rfl _ _ (w.heap.size + 1) 63 ([nV 1, (.slice (some ⟨gv6, 0, none⟩) 1 1), (.slice (some ⟨gv5, 0, none⟩) 1 1), nV 0]).toArray (0, 0) _ rfl FT.out Tryz.underlying63 rfl (by kernel_rfl)) rfl ?_
      exact ⟨_, rfl, fun W hW => ⟨⟨by show 1 ≤ _; omega, by show 0 ≤ _; omega⟩, _, _, rfl, insAt_one (row_kps NI.out hW (by have := GNI.out; show _ ≤ _; omega)) (x := firstX h32 ex) (firstX_ok ex H32.out) (KK.out.kps (fun sp n cap hv _ => by cases hv; have := GK.out sp rfl; show w.heap.size ≤ sp.block; omega) hW), outsAt_one (row_kps NO.out hW (by have := GNO.out; show _ ≤ _; omega)) (y := ⟨val, lock⟩) ⟨LK.out, VB.out⟩⟩, BZ.out⟩
  · skip
    rw [if_pos (by rfl)]
    refine wp_slice_one 61 116 (.tmp 21) rfl (outL ⟨val, lock⟩) rfl Tryz.underlying61 i3 _ hi3 hv0 (by rw [hv1, LO.out]) (by rw [LO.out]; omega) (by rw [LO.out]; omega) ?_
    have nf := heap_alloc_new wd (.cells (outL ⟨val, lock⟩).toArray 116 (0, 0))
    have bb := (Below.refl wd.heap.size wd).alloc (Nat.le_refl _) (.cells (outL ⟨val, lock⟩).toArray 116 (0, 0))
    obtain ⟨gv8, hgv8⟩ : ∃ g, g = wd.heap.size := ⟨_, rfl⟩
    generalize hqv8 : World.alloc _ _ = v8
    have ev8 : wd.alloc (.cells (outL ⟨val, lock⟩).toArray 116 (0, 0)) = v8 := hqv8
    rw [ev8] at nf bb
    rw [← hgv8] at nf ⊢
    have NO := Lib.hid nf
    have GNO : Hid (w.heap.size + 1 < gv8) := by show _ < _; rw [hgv8]; exact (Array.getElem?_eq_some_iff.1 FT.out).1
    have FT := Lib.hid (row_below FT.out bb)
    have KK := Lib.hid (KK.out.below bb)
    have hv8 := (show _ ∧ _ from ⟨hHeld.1.trans (bb.mono hHeld.1.size), row_below hHeld.2 bb⟩)
    clear nf bb hqv8 ev8 hgv8 hHeld
    go_frame
    refine hK.out _ _ hv8 (fun hHeld => ?_)
    clear hK K hv8
    refine wpAnyH_ready (rs := [0]) (by kernel_rfl) (by simp) (held_cons rfl (fun K hK => ?_) AllReadyH.nil)
    go_simp
    refine (rnull_any _).mono ?_
    rintro e v9 ⟨rfl, bb⟩
    have FT := Lib.hid (row_below FT.out bb)
    have KK := Lib.hid (KK.out.below bb)
    have NO := Lib.hid (row_below NO.out bb)
    have hv9 := (show _ ∧ _ from ⟨hHeld.1.trans (bb.mono hHeld.1.size), row_below hHeld.2 bb⟩)
    clear bb hHeld
    go_wp2_with fail
    refine hK.out _ _ hv9 (fun hHeld => ?_)
    clear hK K hv9
    refine held_take (i := 2) (v := (.agg (inL (firstX h32 ex) (.slice sk nk ck)).toArray)) rfl (by kernel_rfl) (by kernel_rfl) (by kernel_rfl) (fun _ _ _ h => h) (yieldsIf_build (by rfl) 114 _ rfl [(0, .agg nullL.toArray), (1, .slice sk nk ck), (2, .int .u32 4294967295)] (by kernel_rfl) _ (by kernel_rfl)) hHeld ?_
    go_frame
    refine wpAnyH_ready (rs := [3]) (by kernel_rfl) (by simp) (held_cons rfl (fun K hK => ?_) AllReadyH.nil)
    rw [if_pos (by rfl)]
    refine wp_slice_one 60 114 (.tmp 17) rfl (inL (firstX h32 ex) (.slice sk nk ck)) rfl Tryz.underlying60 i2 _ hi2 hx0 (by rw [hx1]; rfl) (by show 0 < 35; omega) (by show 35 ≤ _; omega) ?_
    have nf := heap_alloc_new v9 (.cells (inL (firstX h32 ex) (.slice sk nk ck)).toArray 114 (0, 0))
    have bb := (Below.refl v9.heap.size v9).alloc (Nat.le_refl _) (.cells (inL (firstX h32 ex) (.slice sk nk ck)).toArray 114 (0, 0))
    obtain ⟨gv10, hgv10⟩ : ∃ g, g = v9.heap.size := ⟨_, rfl⟩
    generalize hqv10 : World.alloc _ _ = v10
    have ev10 : v9.alloc (.cells (inL (firstX h32 ex) (.slice sk nk ck)).toArray 114 (0, 0)) = v10 := hqv10
    rw [ev10] at nf bb
    rw [← hgv10] at nf ⊢
    have NI := Lib.hid nf
    have GNI : Hid (w.heap.size + 1 < gv10) := by show _ < _; rw [hgv10]; exact (Array.getElem?_eq_some_iff.1 FT.out).1
    have FT := Lib.hid (row_below FT.out bb)
    have KK := Lib.hid (KK.out.below bb)
    have NO := Lib.hid (row_below NO.out bb)
    have hv10 := (show _ ∧ _ from ⟨hHeld.1.trans (bb.mono hHeld.1.size), row_below hHeld.2 bb⟩)
    clear nf bb hqv10 ev10 hgv10 hHeld
    go_frame
    refine hK.out _ _ hv10 (fun hHeld => ?_)
    clear hK K hv10
    refine held_take (i := 8) (v := (.agg ([nV 1, (.slice (some ⟨gv10, 0, none⟩) 1 1), (.slice (some ⟨gv8, 0, none⟩) 1 1), nV 0]).toArray)) rfl (by kernel_rfl) (by kernel_rfl) (by kernel_rfl) (fun _ _ _ h => h) (yieldsIf_build (by rfl) 63 _ rfl [(0, .int .u32 1), (1, (.slice (some ⟨gv10, 0, none⟩) 1 1)), (2, (.slice (some ⟨gv8, 0, none⟩) 1 1))] (by kernel_rfl) _ (by kernel_rfl)) hHeld ?_
    go_frame
    refine wpAnyH_ready (rs := [9]) (by kernel_rfl) (by simp) (held_cons rfl (fun K hK => ?_) AllReadyH.nil)
    rw [if_pos (by rfl)]
    refine wp_store_whole 63 (.tmp 8) (.tmp 23) rfl (w.heap.size + 1) [nV 0, .slice none 0 0, .slice none 0 0, nV 0] [nV 1, (.slice (some ⟨gv10, 0, none⟩) 1 1), (.slice (some ⟨gv8, 0, none⟩) 1 1), nV 0] 63 rfl rfl (rfl) FT.out (by kernel_rfl) (by kernel_rfl) ?_
    intro v11 q1 q2
    have FT := Lib.hid q1
    have KK := Lib.hid (KeyAt.off KK.out (fun sp n cap hv _ hq => by cases hv; have e : w.heap.size + 1 = sp.block := Option.some.inj hq; have := GK.out sp rfl; omega) q2)
    have NO := Lib.hid (row_far NO.out q2 (by intro h; have := Option.some.inj h; have := GNO.out; omega))
    have NI := Lib.hid (row_far NI.out q2 (by intro h; have := Option.some.inj h; have := GNI.out; omega))
    have hv11 := (show _ ∧ _ from ⟨hHeld.1.grown q2 hHeld.1.size (fun k hk => by cases hk; omega), row_far hHeld.2 q2 (by intro h; have := Option.some.inj h; omega)⟩)
    clear q1 q2 hHeld
    go_frame
    refine hK.out _ _ hv11 (fun hHeld => ?_)
    clear hK K hv11
    refine wpAnyH_done (by kernel_rfl) ?_ _
    have BZ := Lib.hid hHeld.1
    clear hHeld
    go_wp2_with fail
    refine bodyPost_ret (results_cell_row rfl _ _ (w.heap.size + 1) 63 ([nV 1, (.slice (some ⟨gv10, 0, none⟩) 1 1), (.slice (some ⟨gv8, 0, none⟩) 1 1), nV 0]).toArray (0, 0) _ rfl FT.out Tryz.underlying63 rfl (by kernel_rfl)) rfl ?_
    exact ⟨_, rfl, fun W hW => ⟨⟨by show 1 ≤ _; omega, by show 0 ≤ _; omega⟩, _, _, rfl, insAt_one (row_kps NI.out hW (by have := GNI.out; show _ ≤ _; omega)) (x := firstX h32 ex) (firstX_ok ex H32.out) (KK.out.kps (fun sp n cap hv _ => by cases hv; have := GK.out sp rfl; show w.heap.size ≤ sp.block; omega) hW), outsAt_one (row_kps NO.out hW (by have := GNO.out; show _ ≤ _; omega)) (y := ⟨val, lock⟩) ⟨LK.out, VB.out⟩⟩, BZ.out⟩
set_option maxHeartbeats 2000000 in
set_option maxRecDepth 100000 in
theorem rooted_any (x : TBlk) (tv : Value) (w : World) (hh : HdOk x.head) (ht : TxsAt w tv x.txs) (hs : BlkSmall x) :
    Calls Tryz.prog 29 #[.agg (blL x.head tv).toArray] w fun e w' => e = .returned (.agg (blL { x.head with root := blRoot x } tv).toArray) ∧ Below w.heap.size w w' := by
  have HH := Lib.hid hh
  have HT := Lib.hid ht
  have TS := Lib.hid hs
  have T1 : Hid (tv.oneCell' = true) := ht.one
  obtain ⟨cs, hcs⟩ : ∃ cs, cs = blL x.head tv := ⟨_, rfl⟩
  have K1 : Hid (∀ W g, W.heap[g]? = some (.cells cs.toArray 31 (0, 0)) → BlBox W g x.head tv) := fun W g h => ⟨by rw [← hcs]; exact h⟩
  obtain ⟨R, hR⟩ : ∃ R, R = blRoot x := ⟨_, rfl⟩
  have LR : Hid (R.length = 32) := by show _ = _; rw [hR]; exact blRoot_length x
  have HR : Hid (rootL prH zM (idsL x.txs) = R) := hR.symm
  have HOK : Hid (HdOk { x.head with root := R }) := ⟨hh.1, hh.2.1, LR.out, hh.2.2.2.1, hh.2.2.2.2.1, hh.2.2.2.2.2⟩
  rw [← hR, ← hcs]
  obtain ⟨ds, hds⟩ : ∃ ds, ds = blL { x.head with root := R } tv := ⟨_, rfl⟩
  rw [← hds]
  have ON2 : Hid (ds.toArray.all (·.oneCell') = true) := by show _ = _; rw [hds]; exact blL_one T1.out
  have LS2 : Hid (ds.toArray.size = 69) := by show _ = _; rw [hds]; exact blL_size HOK.out _
  have K2 : Hid (∀ W g, BlBox W g { x.head with root := R } tv → W.heap[g]? = some (.cells ds.toArray 31 (0, 0))) := fun W g h => by rw [hds]; exact h.row
  clear hcs hds hR hh ht hs
  go_enter Tryz.func29, Tryz.ntmps29
  go_upto_region 1 with fail
  have f1 := row_below (heap_alloc_new w (.cells cs.toArray 31 (0, 0))) ((Below.refl _ _).alloc (Nat.le_refl _) (.cells Tryz.zeroCells31 31))
  have f2 := heap_alloc_new (w.alloc (.cells cs.toArray 31 (0, 0))) (.cells Tryz.zeroCells31 31)
  have b1 := ((Below.refl w.heap.size w).alloc (Nat.le_refl _) (.cells cs.toArray 31 (0, 0))).alloc (by simp) (.cells Tryz.zeroCells31 31)
  rw [World.size_alloc] at f2
  generalize hw1 : World.alloc _ _ = w1
  have e1 : (w.alloc (.cells cs.toArray 31 (0, 0))).alloc (.cells Tryz.zeroCells31 31) = w1 := hw1
  rw [e1] at f1 f2 b1
  have k1 := K1.out _ _ f1
  have c1 := k1.txs HH.out
  have K := Lib.hid k1
  have F2 := Lib.hid f2
  have B1 := Lib.hid b1
  clear f1 f2 b1 hw1 e1 k1 K1
  go_wp2_with fail
  refine (rids_any x.txs tv w1 (HT.out.below B1.out) TS.out.1 TS.out.2).mono ?_
  rintro e w2 ⟨v2, rfl, ho, hb2⟩
  have HA := Lib.hid ho.at
  have B2 := Lib.hid (B1.out.trans (hb2.mono B1.out.size))
  have K2' := Lib.hid (K.out.below hb2)
  have F3 := Lib.hid (row_below F2.out hb2)
  clear ho hb2 c1
  go_wp2_with fail
  refine (rootR_v (idsL x.txs) R v2 w2 HA.out (by rw [idsL_length]; have := TS.out.2; omega) HR.out).mono ?_
  rintro e w3 ⟨rfl, hb3⟩
  have B3 := Lib.hid (B2.out.trans (hb3.mono B2.out.size))
  have K3 := Lib.hid (K2'.out.below hb3)
  have F4 := Lib.hid (row_below F3.out hb3)
  clear hb3
  go_upto_region 2 with ((with_reducible show wpList _ _ _ _ _ _); refine st_blroot rfl (.tmp 8) (.tmp 6) rfl rfl R LR.out rfl HH.out K3.out ?_; intro w4 k4 g4; have K4 := Lib.hid (K2.out _ _ k4); have G4 := Lib.hid g4; clear k4 g4; go_frame)
  have F5 := Lib.hid (row_far F4.out G4.out (by intro h; have := Option.some.inj h; omega))
  have B4 := Lib.hid (B3.out.grown G4.out B3.out.size (fun k hk => by cases hk; exact Nat.le_refl _))
  go_wp2_with ((with_reducible show wpList _ _ _ _ _ _); first | (refine wpList_load_row rfl 31 (.tmp 1) rfl w.heap.size rfl 31 ds.toArray (0, 0) _ K4.out Tryz.underlying31 rfl (by rw [LS2.out]; kernel_rfl) ?_; go_frame) | (refine wpList_store_row rfl 31 (.tmp 2) (.tmp 9) rfl (w.heap.size + 1) ds.toArray rfl rfl 31 _ F5.out (by rw [LS2.out]; kernel_rfl) (by rw [LS2.out]; kernel_rfl) ON2.out ?_; go_frame))
  exact bodyPost_ret (results_cell_row rfl _ _ (w.heap.size + 1) 31 ds.toArray (0, 0) _ rfl (setRow_heap _ _ _ _ _ _ F5.out) Tryz.underlying31 rfl (by rw [LS2.out]; kernel_rfl)) rfl ⟨rfl, below_setRow B4.out (Nat.le_succ _) _⟩
set_option maxHeartbeats 2000000 in
set_option maxRecDepth 100000 in
theorem rstart_any (w : World) : Calls Tryz.prog 7 #[] w fun e w' => ∃ v, e = .returned v ∧ BlkAt w' v startX ∧ Below w.heap.size w w' := by
  obtain ⟨i0, hi, hz0, hz1, hz2⟩ := info_parts info_txc
  have LC : Hid (∀ W, Calls Tryz.prog 31 #[.slice none 0 0] W fun e w' => e = .returned (.agg ((sha []).map bV).toArray) ∧ Below W.heap.size W w') := fun W => ref_any [] none 0 0 W (nil_src _) (by omega)
  have FC : Hid (∀ W, Calls Tryz.prog 30 #[.int .i64 0, .int .u64 0, .agg ((sha []).map bV).toArray, .slice none 0 0] W fun e w' => ∃ v', e = .returned v' ∧ TxNew W w' v' startT ∧ Below W.heap.size W w') := fun W =>
    rfirst_any 0 0 0 (sha []) [] (.slice none 0 0) W (by decide) (by omega) (by omega) (sha_length _) (nil_src _) (by simp)
  obtain ⟨lk, hlk⟩ : ∃ lk, lk = ((sha []).map bV).toArray := ⟨_, rfl⟩
  rw [← hlk] at LC FC
  clear hlk
  go_enter Tryz.func7, Tryz.ntmps7
  go_upto_region 1 with fail
  have f0 := heap_alloc_new w (.cells Tryz.zeroCells31 31 (0, 0))
  have b0 := (Below.refl w.heap.size w).alloc (Nat.le_refl _) (.cells Tryz.zeroCells31 31 (0, 0))
  generalize hw1 : World.alloc _ _ = w1
  have e1 : w.alloc (.cells Tryz.zeroCells31 31 (0, 0)) = w1 := hw1
  rw [e1] at f0 b0
  have F0 := Lib.hid f0
  have B0 := Lib.hid b0
  clear f0 b0 hw1 e1
  go_wp2_with ((with_reducible show wpList _ _ _ _ _ _); refine wpList_buildTo rfl 28 _ rfl _ rfl (hdL startH).toArray (by kernel_rfl) ?_; go_frame)
  refine (LC.out w1).mono ?_
  rintro e w2 ⟨rfl, hb2⟩
  have B2 := Lib.hid (B0.out.trans (hb2.mono B0.out.size))
  have F2 := Lib.hid (row_below F0.out hb2)
  clear hb2
  go_wp2_with fail
  refine (FC.out w2).mono ?_
  rintro e w3 ⟨v3, rfl, ht3, hb3⟩
  have B3 := Lib.hid (B2.out.trans (hb3.mono B2.out.size))
  have F3 := Lib.hid (row_below F2.out hb3)
  have N3 := Lib.hid hb3
  have TA := Lib.hid ht3
  obtain ⟨_, iv, ov, rfl, _, _⟩ := ht3.at
  have LW2 : Hid (w.heap.size < w2.heap.size) := (Array.getElem?_eq_some_iff.1 F2.out).1
  clear hb3
  have CT : Hid ((txL startT iv ov).length = 4) := rfl
  obtain ⟨ct, hct⟩ : ∃ ct, ct = txL startT iv ov := ⟨_, rfl⟩
  rw [← hct] at CT TA ⊢
  have HCT := Lib.hid hct
  clear hct
  go_wp2_with ((with_reducible show wpList _ _ _ _ _ _); first | (refine wpList_slice_one rfl 29 63 (.tmp 3) rfl ct rfl Tryz.underlying29 i0 _ hi hz0 (by rw [hz1, CT.out]) (by rw [CT.out]; omega) (by rw [CT.out]; omega) ?_; have nf := heap_alloc_new w3 (.cells (ct).toArray 63 (0, 0)); have bb := (Below.refl w3.heap.size w3).alloc (Nat.le_refl _) (.cells (ct).toArray 63 (0, 0)); obtain ⟨gt, hgt⟩ : ∃ g, g = w3.heap.size := ⟨_, rfl⟩; generalize hq : World.alloc _ _ = w4; have e2 : w3.alloc (.cells (ct).toArray 63 (0, 0)) = w4 := hq; rw [e2] at nf bb; rw [← hgt] at nf ⊢; have NT := Lib.hid nf; have B4 := Lib.hid (B3.out.trans (bb.mono B3.out.size)); have F4 := Lib.hid (row_below F3.out bb); have GTL := Lib.hid ((show w2.heap.size ≤ gt by rw [hgt]; exact N3.out.size)); have TA4 := Lib.hid (TA.out.on (Kps.new bb)); clear nf bb hq e2 hgt; go_frame) | (refine wpList_buildTo rfl 31 _ rfl _ rfl (blL startH (.slice (some ⟨gt, 0, none⟩) 1 1)).toArray (by kernel_rfl) ?_; go_frame))
  have TX4 : Hid (Sty (fun k => w2.heap.size ≤ k) w4 (fun W => TxsAt W (.slice (some ⟨gt, 0, none⟩) 1 1) [startT])) := fun W hW => by
    have h1 := row_kps NT.out hW GTL.out
    have h2 := TA4.out W hW
    rw [HCT.out] at h1 h2
    exact txsAt_one h1 h2
  have RC := rooted_any startX0 (.slice (some ⟨gt, 0, none⟩) 1 1) w4 startH_ok TX4.out.now startX0_small
  obtain ⟨hd, hhd⟩ : ∃ hd, hd = ({ startX0.head with root := blRoot startX0 } : THd) := ⟨_, rfl⟩
  rw [← hhd] at RC
  have HOK : Hid (HdOk hd) := by show HdOk _; rw [hhd]; exact startX_ok
  have ON2 : Hid ((blL hd (.slice (some ⟨gt, 0, none⟩) 1 1)).toArray.all (·.oneCell') = true) := blL_one rfl
  have LS2 : Hid ((blL hd (.slice (some ⟨gt, 0, none⟩) 1 1)).toArray.size = 69) := blL_size HOK.out _
  obtain ⟨ds, hds⟩ : ∃ ds, ds = blL hd (.slice (some ⟨gt, 0, none⟩) 1 1) := ⟨_, rfl⟩
  rw [← hds] at ON2 LS2 RC
  obtain ⟨cs, hcs⟩ : ∃ cs, cs = blL startX0.head (.slice (some ⟨gt, 0, none⟩) 1 1) := ⟨_, rfl⟩
  rw [← hcs] at RC
  rw [show blL startH (.slice (some ⟨gt, 0, none⟩) 1 1) = cs from hcs.symm]
  have HDS := Lib.hid hds
  have HHD := Lib.hid hhd
  clear hds hhd hcs
  refine RC.mono ?_
  rintro e w5 ⟨rfl, hb5⟩
  have N5 := Lib.hid hb5
  have B5 := Lib.hid (B4.out.trans (hb5.mono B4.out.size))
  have FR5 := Lib.hid (row_below F4.out hb5)
  clear hb5 RC
  go_wp2_with ((with_reducible show wpList _ _ _ _ _ _); (refine wpList_store_row rfl 31 (.tmp 0) (.tmp 6) rfl w.heap.size ds.toArray rfl rfl 31 _ FR5.out (by rw [LS2.out]; kernel_rfl) (by rw [LS2.out]; kernel_rfl) ON2.out ?_; go_frame))
  refine bodyPost_ret (results_cell_row rfl _ _ w.heap.size 31 ds.toArray (0, 0) _ rfl (setRow_heap _ _ _ _ _ _ FR5.out) Tryz.underlying31 rfl (by rw [LS2.out]; kernel_rfl)) rfl ?_
  have G8 : w5.grownBy (w5.setRow w.heap.size ds.toArray) (some w.heap.size) := setRow_grown _
  refine ⟨_, rfl, ⟨startX_ok, .slice (some ⟨gt, 0, none⟩) 1 1, ?_, ?_⟩, B5.out.grown G8 B5.out.size (fun k hk => by cases hk; exact Nat.le_refl _)⟩
  · rw [HDS.out, HHD.out]
    rfl
  · exact TX4.out _ ((Kps.new N5.out).trans (Kps.grown G8 (fun k _ h e => by have := Option.some.inj e; have := LW2.out; omega)))
end Go.Proofs.YtdhcjaflbfpalaaGreatDoor.Sha

/-
  The laws' own chapter's example, and headers that grow out of numbers. Nothing that was there turns. Conditions: the numbers lie where the slice says, at most 60; the table of the rounds' words is there.
-/
namespace Go.Proofs.YtdhcjaflbfpalaaGreatDoor.Sha
open Go Go.RowKit
theorem field_head (h : THd) (hh : HdOk h) (tv : Value) (w : World) : (Instr.field 31 (.agg (blL h tv).toArray) 0).run Tryz.prog w = .ok (.agg (hdL h).toArray) w := by
  have hagg : (isAgg 28).run Tryz.prog w = .ok true w := by
    unfold isAgg
    rw [Sem.run_bind, run_underlying Tryz.underlying28 w]
    rfl
  have hsz : (Go.sizeOf 28).run Tryz.prog w = .ok 68 w := by kernel_rfl
  have e : (blL h tv).toArray.extract 0 68 = (hdL h).toArray := by
    rw [List.extract_toArray, List.extract_eq_take_drop, List.drop_zero, Nat.sub_zero, blL, List.take_append_of_le_length (by rw [hdL_length hh]; exact Nat.le_refl _), List.take_of_length_le (by rw [hdL_length hh]; exact Nat.le_refl _)]
  have hp : (part 28 (blL h tv).toArray 0).run Tryz.prog w = .ok (.agg (hdL h).toArray) w := by
    simp only [part, Sem.run_bind, hagg, Result.andThen_ok, if_true, hsz, Sem.run_pure, Nat.zero_add, e]
  have hf : ∀ x : Array Value, (Instr.field 31 (.agg x) 0).run Tryz.prog w = (part 28 x 0).run Tryz.prog w := fun x => by kernel_rfl
  rw [hf]
  exact hp
theorem ofT_start (h : THd) : ofT [stT h] (hdId h) = (h, 0, h.work, true) := by
  have e : findT [stT h] (hdId h) = ((0 : Nat) : Int) := findT_some (L := [stT h]) (x := stT h) rfl rfl (fun j y hj => by omega)
  unfold ofT
  rw [e, if_neg (by decide)]
  rfl
/-- Numbers where a slice says. -/
def SrcZ (w : World) (sp : Option Addr) (m : Nat) (z : Nat → Int) : Prop := 0 < m → ∃ cb coff, sp = some ⟨cb, coff, none⟩ ∧ ∀ i, i < m → w.cell? ⟨cb, coff + i, none⟩ = some (.int .i64 (z i)) ∧ -9223372036854775808 ≤ z i ∧ z i ≤ 9223372036854775807
end Go.Proofs.YtdhcjaflbfpalaaGreatDoor.Sha

/-
  The state of the laws over marks: a tree, marks over it, a row of ids that are in it. No conditions.
-/
namespace Go.Proofs.YtdhcjaflbfpalaaGreatDoor.Sha
open Go Go.RowKit
structure BoG (w0 w : World) (tb tm b bm mm : Nat) (ov lv : Value) (M : List CNd) (B Mt : IdSet) (d : Array Rk) (I : List OH) : Prop where
  ct : CtAt w w0.heap.size tb tm M
  tr : TrL (ndM M)
  hung : Hung (ndM M)
  mks : MkAt w w0.heap.size b tb bm mm lv B Mt d
  mi : MkI (ndM M) B Mt d
  ne : tm ≠ bm ∧ tm ≠ mm
  ids : RwOwn 32 26 w0.heap.size w ov (I.map fun q : OH => q.1.map bV)
  has : ∀ q ∈ I, 0 ≤ findT (ndM M) q.1
  old : Below w0.heap.size w0 w
section
variable {w0 w w' : World} {tb tm b bm mm : Nat} {ov ov' lv : Value} {M : List CNd} {B Mt : IdSet} {d : Array Rk} {I : List OH}
theorem BoG.below (h : BoG w0 w tb tm b bm mm ov lv M B Mt d I) (hb : Below w.heap.size w w') : BoG w0 w' tb tm b bm mm ov lv M B Mt d I :=
  ⟨h.ct.below hb, h.tr, h.hung, h.mks.below hb, h.mi, h.ne, h.ids.keep hb, h.has, h.old.trans (hb.mono h.old.size)⟩
theorem BoG.base (h : BoG w0 w tb tm b bm mm ov lv M B Mt d I) : w0.heap.size ≤ w.heap.size := h.old.size
/-- The row of ids has grown. -/
theorem BoG.turn (h : BoG w0 w tb tm b bm mm ov lv M B Mt d I) (hg : w.grownBy w' ov.ownBlock) {I' : List OH} (ho : RwOwn 32 26 w0.heap.size w' ov' (I'.map fun q : OH => q.1.map bV)) (hI : ∀ q ∈ I', 0 ≤ findT (ndM M) q.1) : BoG w0 w' tb tm b bm mm ov' lv M B Mt d I' := by
  have hk : Kps (fun j => some j ≠ ov.ownBlock) w w' := Kps.grown hg fun _ _ hf => hf
  have un : ∀ {bs n k : Nat} {T : TypeId} {v : Value} {xs : List Value}, w.ownsRow bs T k v n xs → 26 ≠ T → ∀ g, v.ownBlock = some g → some g ≠ ov.ownBlock := fun hr hT g hg' e => by
    rcases own_unlike h.ids.1 hr hT with h0 | h1
    · rw [h0] at e; cases e
    · exact h1 (e.symm.trans hg'.symm)
  refine ⟨h.ct.kps hk (fun e => own_ne' h.ids.1 h.ct.box (by decide) e.symm) (fun e => own_nemap h.ct.mp h.ids.1 e.symm) (fun c hc => ?_), h.tr, h.hung, h.mks.kps hk (fun e => own_ne' h.ids.1 h.mks.box (by decide) e.symm) (fun e => own_nemap h.mks.bad h.ids.1 e.symm) (fun e => own_nemap h.mks.met h.ids.1 e.symm) (un h.mks.row.1 (by decide)), h.mi, h.ne, ho, hI, own_grown h.old (Nat.le_refl _) h.old.size h.ids.1 hg⟩
  obtain ⟨i, hi⟩ := h.ct.at_ hc
  exact ⟨fun e => own_ne' h.ids.1 (h.ct.node i c hi) (by decide) e.symm, un (h.ct.kid i c hi).1 (by decide)⟩
/-- Add was told a header whose parent is there. -/
theorem BoG.add {E : Nat → Addr} {e : Ending} {hd : THd} (h : BoG w0 w tb tm b bm mm ov lv M B Mt d I) (hh : HdOk hd) (hp : 0 ≤ findT (ndM M) hd.prev) (hl : M.length < 4096) (hA : CtaP E w0.heap.size tb tm M hd w e w') :
    ∃ M', BoG w0 w' tb tm b bm mm ov lv M' B Mt d I ∧ 0 ≤ findT (ndM M') (hdId hd) ∧ M'.length ≤ M.length + 1 ∧ (∀ (g : Nat) (cs : Array Value) (T : TypeId) (fr : Nat × Nat), w.heap[g]? = some (.cells cs T fr) → T ≠ 70 → 67 ≠ T → w'.heap[g]? = some (.cells cs T fr))
      ∧ (addE (ndM M) hd = 0 → ndM M' = ndM M ++ [nxT (ndM M) hd]) := by
  obtain ⟨_, h1, h2⟩ := hA
  by_cases ha : addE (ndM M) hd = 0
  · obtain ⟨M', hm, hc, hk⟩ := h2 ha
    have tr' : TrL (ndM M') := by rw [hm]; exact h.tr.push hh ha
    have hu' : Hung (ndM M') := by rw [hm]; exact h.hung.push h.tr ha
    have hid : hdId hd = (nxT (ndM M) hd).id := rfl
    have hno : ∀ y ∈ ndM M, y.id ≠ (nxT (ndM M) hd).id := fun y hy e => by
      unfold addE at ha
      split at ha
      · cases ha
      · rename_i hf
        rcases findT_cases (ndM M) (hdId hd) with ⟨_, hn⟩ | ⟨k, x, ek, _⟩
        · exact hn y hy e
        · omega
    refine ⟨M', ⟨hc, tr', hu', h.mks.grow h.ct h.ne.1 h.ne.2 hk, ?_, h.ne, ⟨own_kpsB h.ids.1 hk (h.ct.ownF h.ids.1 (by decide) (by decide)), h.ids.2⟩, fun q hq => ?_, ?_⟩, ?_, ?_, fun g cs T fr hg t1 t2 => row_kps hg hk (h.ct.rowF hg t1 t2), fun _ => hm⟩
    · rw [hm] at tr' hu' ⊢
      exact h.mi.add h.tr h.hung tr' hu'
    · rw [hm, findT_push _ (h.has q hq)]
      exact h.has q hq
    · exact h.old.trans (Kps.down hk h.base fun j hj => h.ct.oldF hj)
    · rw [hm, hid, findT_last _ hno]; omega
    · have := congrArg List.length hm
      rw [List.length_append, ndM_length, ndM_length] at this
      simp only [List.length_singleton] at this
      omega
  · have hb := h1 ha
    refine ⟨M, h.below hb, ?_, Nat.le_succ _, fun g cs T fr hg _ _ => row_below hg hb, fun h0 => absurd h0 ha⟩
    unfold addE at ha
    split at ha
    · assumption
    · split at ha
      · omega
      · split at ha
        · rename_i hc
          rw [ndM_length] at hc
          omega
        · exact absurd rfl ha
/-- What Bad leaves of it. -/
theorem BoG.bad {e : Ending} {id : List UInt8} (h : BoG w0 w tb tm b bm mm ov lv M B Mt d I) (hB : BaP w0.heap.size b tb bm mm lv B Mt d (ndM M) id w e w') :
    ∃ B', BoG w0 w' tb tm b bm mm ov lv M B' Mt d I ∧ BtR w0.heap.size bm mm w w' ∧ ((ofT (ndM M) id).2.1 = 0 ∧ e = .returned (.bool false) ∧ B' = B ∨ (ofT (ndM M) id).2.1 ≠ 0 ∧ e = .returned (.bool true) ∧ (isM (ndM M) B id = true ∧ B' = B ∨ isM (ndM M) B id = false ∧ ∃ l, l.Perm (undT (ndM M) id) ∧ BadP B l id B')) := by
  obtain ⟨B', hm, hr, hc⟩ := hB
  refine ⟨B', ⟨h.mks.tree h.ct h.ne.1 h.ne.2 hr, h.tr, h.hung, hm, ?_, h.ne, ⟨own_kpsB h.ids.1 hr (h.mks.ownF h.ids.1 (by decide) (by decide)), h.ids.2⟩, h.has, h.old.trans (hr.old h.base)⟩, hr, hc⟩
  rcases hc with ⟨_, _, rfl⟩ | ⟨h0, _, h2⟩
  · exact h.mi
  · have hf : 0 ≤ findT (ndM M) id := by
      by_cases hf : 0 ≤ findT (ndM M) id
      · exact hf
      · rw [ofT_none (by omega)] at h0
        exact absurd rfl h0
    obtain ⟨k0, x0, _, hx0, rfl⟩ := found hf
    have k0p : 0 < k0 := by
      rcases h.tr.parent hx0 with ⟨_, _, e⟩ | ⟨p, _, hp, _⟩
      · rw [ofT_at h.tr hx0] at h0
        exact absurd e h0
      · omega
    refine h.mi.bad h.tr h.hung (k0 := k0) ?_
    rcases h2 with ⟨h3, rfl⟩ | ⟨_, l, hl, hb⟩
    · rw [isM_at h.tr h.hung hx0] at h3
      exact MarkP.same h.tr h3
    · exact fun k hk => isU_bad h.tr hx0 k0p hl hb hk
/-- What Best leaves of it. -/
theorem BoG.best {e : Ending} (h : BoG w0 w tb tm b bm mm ov lv M B Mt d I) (hB : BsP w0.heap.size b tb bm mm B (ndM M) w e w') :
    ∃ (top : OH) (lv' : Value) (Mt' : IdSet) (d' : Array Rk), e = .returned (.agg (top.1.map bV).toArray) ∧ BestP (ndM M) B top ∧ BoG w0 w' tb tm b bm mm ov lv' M B Mt' d' I ∧ BtR w0.heap.size bm mm w w' := by
  obtain ⟨top, lv', Mt', d', rfl, hb, hm, hi, hr⟩ := hB
  exact ⟨top, lv', Mt', d', rfl, hb, ⟨h.mks.tree h.ct h.ne.1 h.ne.2 hr, h.tr, h.hung, hm, hi, h.ne, ⟨own_kpsB h.ids.1 hr (h.mks.ownF h.ids.1 (by decide) (by decide)), h.ids.2⟩, h.has, h.old.trans (hr.old h.base)⟩, hr⟩
theorem BoG.at_ (h : BoG w0 w tb tm b bm mm ov lv M B Mt d I) (h0 : 0 < I.length) : ∃ g o cap, ov = .slice (some ⟨g, o, none⟩) I.length cap ∧ ∀ (i : Nat) (q : OH), I[i]? = some q → w.rangeAt g (o + i * 32) (q.1.map bV) := by
  obtain ⟨sp, cap, rfl⟩ := (h.ids.at (by decide)).shape
  obtain ⟨g, o, rfl, hg⟩ := (h.ids.at (by decide)).get (by rw [List.length_map]; exact h0)
  exact ⟨g, o, cap, by rw [List.length_map], fun i q hq => hg i _ (by rw [List.getElem?_map, hq]; rfl)⟩
end
theorem best_start {h : THd} {top : OH} (hb : BestP [stT h] [] top) : top.1 = hdId h := by
  obtain ⟨k, x, _, hx, e⟩ := found hb.has
  cases k with
  | zero => rw [← e]; cases hx; rfl
  | succ k => cases hx
end Go.Proofs.YtdhcjaflbfpalaaGreatDoor.Sha

/-
  sort.Slice over a row of ids by the marks' comparison: the same ids, none less than the one ahead. Conditions: the row is one of its own; the slice stands in a box.
-/
namespace Go.Proofs.YtdhcjaflbfpalaaGreatDoor.Sha
open Go Go.RowKit
open Go.Shelf Go.Lib
open Go.Sort (HoldsK SWO pdq swp putRowK flatK holdsK_putRowK holdsK_ahead putRowK_self swap_worldK PermIn SortedIn putRow mapBlock onCells grow size_grow)
set_option maxHeartbeats 2000000 in
set_option maxRecDepth 100000 in
theorem all1_any (ib g cap n i j : Nat) (d : Array OH) (w : World) (hb : w.heap[ib]? = some (.cells #[(.slice (some ⟨g, 0, none⟩) n cap)] 52 (0, 0))) (hH : HoldsK encH 32 w g 0 d) (hs : d.size = n) (hi : i < n) (hj : j < n) (hn : n ≤ 1048576) :
    Calls Tryz.prog 46 #[.int .i64 (i : Int), .int .i64 (j : Int), .pointer (some ⟨ib, 0, none⟩)] w fun e w' => e = .returned (.bool (ltH d[i]! d[j]!)) ∧ Below w.heap.size w w' := by
  have HB := Lib.hid hb
  obtain ⟨c, hc⟩ : ∃ c, c = ltH d[i]! d[j]! := ⟨_, rfl⟩
  have hcc : ∀ w, Calls Tryz.prog 47 #[.agg ((d[i]!).1.map bV).toArray, .agg ((d[j]!).1.map bV).toArray] w fun e w' => e = .returned (.bool c) ∧ Below w.heap.size w w' := fun w => by rw [hc]; exact less_any _ _ (d[i]!).2 (d[j]!).2 w
  have ri := holds_range hH (show i < d.size by omega)
  have rj := holds_range hH (show j < d.size by omega)
  have li : ((d[i]!).1.map bV).length = 32 := by rw [List.length_map]; exact (d[i]!).2
  have lj : ((d[j]!).1.map bV).length = 32 := by rw [List.length_map]; exact (d[j]!).2
  rw [← hc]
  generalize (d[i]!).1.map bV = ci at ri li hcc
  generalize (d[j]!).1.map bV = cj at rj lj hcc
  have HC := Lib.hid hcc
  have RI := Lib.hid ri
  have RJ := Lib.hid rj
  have LI := Lib.hid li
  have LJ := Lib.hid lj
  clear hb hH hs hcc ri rj li lj hc
  go_enter Tryz.func46, Tryz.ntmps46
  go_upto_region 1 with fail
  refine wp_region_held_drew (S := (fun w' => Below w.heap.size w w')) (by kernel_rfl) (Below.drew (Below.refl _ _)) (fun hHeld => ?_)
  generalize hwd : w.drew = wd at  hHeld ⊢
  clear hwd
  refine held_take (i := 0) (v := (.slice (some ⟨g, 0, none⟩) n cap)) rfl (by kernel_rfl) (by kernel_rfl) (by kernel_rfl) (fun _ _ _ h => h) (yieldsIf_load_one (by rfl) 52 (.tmp 2) rfl ib (0) rfl _ _ (fun w' hw' => by rw [cell_of_row _ _ _ _ _ _ (row_below HB.out hw')]; rfl) Tryz.underlying52 rfl) hHeld ?_
  go_frame
  refine held_take (i := 1) (v := (.int .i64 (i : Int))) rfl (by kernel_rfl) (by kernel_rfl) (by kernel_rfl) (fun _ _ _ h => h) (Or.inl ⟨by rfl, fun w' _ => by kernel_rfl⟩) hHeld ?_
  go_frame
  refine held_take (i := 2) (v := (.pointer (some ⟨g, i * 32, none⟩))) rfl (by kernel_rfl) (by kernel_rfl) (by kernel_rfl) (fun _ _ _ h => h) (Or.inl ⟨by rfl, fun w' _ => by go_simp⟩) hHeld ?_
  go_frame
  refine held_take (i := 3) (v := (.agg ci.toArray)) rfl (by kernel_rfl) (by kernel_rfl) (by kernel_rfl) (fun _ _ _ h => h) (Sha.yieldsIf_load_mid (by rfl) 26 (.tmp 8) rfl g (i * 32) rfl ci _ (fun w' hw' => range_below RI.out hw') Tryz.underlying26 rfl (by rw [LI.out]; kernel_rfl)) hHeld ?_
  go_frame
  refine held_take (i := 4) (v := (.slice (some ⟨g, 0, none⟩) n cap)) rfl (by kernel_rfl) (by kernel_rfl) (by kernel_rfl) (fun _ _ _ h => h) (yieldsIf_load_one (by rfl) 52 (.tmp 2) rfl ib (0) rfl _ _ (fun w' hw' => by rw [cell_of_row _ _ _ _ _ _ (row_below HB.out hw')]; rfl) Tryz.underlying52 rfl) hHeld ?_
  go_frame
  refine held_take (i := 5) (v := (.int .i64 (j : Int))) rfl (by kernel_rfl) (by kernel_rfl) (by kernel_rfl) (fun _ _ _ h => h) (Or.inl ⟨by rfl, fun w' _ => by kernel_rfl⟩) hHeld ?_
  go_frame
  refine held_take (i := 6) (v := (.pointer (some ⟨g, j * 32, none⟩))) rfl (by kernel_rfl) (by kernel_rfl) (by kernel_rfl) (fun _ _ _ h => h) (Or.inl ⟨by rfl, fun w' _ => by go_simp⟩) hHeld ?_
  go_frame
  refine held_take (i := 7) (v := (.agg cj.toArray)) rfl (by kernel_rfl) (by kernel_rfl) (by kernel_rfl) (fun _ _ _ h => h) (Sha.yieldsIf_load_mid (by rfl) 26 (.tmp 12) rfl g (j * 32) rfl cj _ (fun w' hw' => range_below RJ.out hw') Tryz.underlying26 rfl (by rw [LJ.out]; kernel_rfl)) hHeld ?_
  go_frame
  refine wpAnyH_ready (rs := [8]) (by kernel_rfl) (by simp) (held_cons rfl (fun K hK => ?_) AllReadyH.nil)
  go_simp
  refine (HC.out _).mono ?_
  rintro e v1 ⟨rfl, bb⟩
  have hv1 := hHeld.trans (bb.mono hHeld.size)
  clear bb hHeld
  go_wp2_with fail
  refine hK.out _ _ hv1 (fun hHeld => ?_)
  clear hK K hv1
  refine held_take (i := 9) (v := (.bool c)) rfl (by kernel_rfl) (by kernel_rfl) (by kernel_rfl) (fun _ _ _ h => h) (Or.inl ⟨by rfl, fun w' _ => by kernel_rfl⟩) hHeld ?_
  go_frame
  refine wpAnyH_done (by kernel_rfl) ?_ _
  go_wp2_with fail
  go_ret
  exact ⟨rfl, hHeld⟩
noncomputable def ba_inst (w0 : World) (g ib n cap : Nat) (hbx : w0.heap[ib]? = some (.cells #[(.slice (some ⟨g, 0, none⟩) n cap)] 52 (0, 0))) (hne : ib ≠ g) (hgl : g < w0.heap.size) (hn : n ≤ 1048576) : SoE OH ltH n 46 #[.pointer (some ⟨ib, 0, none⟩)] 85 #[.slice (some ⟨g, 0, none⟩) n cap, typeHandle Tryz.prog 26] where
  I := soI w0 g n
  R := soR g
  size := fun d W h => h.2.2.1
  below := fun d W W' h hb => ⟨grownBy_trans h.1 (grownBy_of_below hb _), holdsK_below h.2.1 (soI_lt h) hb, h.2.2.1, h.2.2.2.elim fun cs hc => ⟨cs, row_below hc hb⟩⟩
  rb := fun W W' hb => ⟨grownBy_of_below hb _, fun b cs T _ h => row_below h hb⟩
  rt := fun a b c h k => ⟨grownBy_trans h.1 k.1, fun x cs T hT hx => k.2 x cs T hT (h.2 x cs T hT hx)⟩
  rbox := fun W W' b h hb => h.2 b _ _ (by decide) hb
  eg := enters_of Tryz.func46 (by kernel_rfl) rfl
  less := fun d W i j h hi hj => all1_any ib g cap n i j d W (row_far hbx h.1 (fun e => hne (Option.some.inj e).symm)) h.2.1 h.2.2.1 hi hj hn
  swap := fun d W i j h hi hj => so_swap h hi hj
  rx := fun W W' b v h hb => h.2 b _ _ (by decide) hb
  rand := fun d' d w W W' s h' h k hs hg => by
    have hgw := soI_lt h'
    have hne2 : s ≠ g := by omega
    have hold : ∀ b o, W.heap[b]? = some o → b ≠ s → W'.heap[b]? = some o := fun b o hb hbs => row_far hb hg (fun e => hbs (Option.some.inj e).symm)
    obtain ⟨cs, hc⟩ := h.2.2.2
    have e : W'.heap[g]? = W.heap[g]? := (hold g _ hc hne2.symm).trans hc.symm
    have hb0 : ∀ b, b < w.heap.size → some b ≠ some s := fun b hb e => by have := Option.some.inj e; omega
    exact ⟨⟨⟨hg.os.trans h.1.os, hg.tape.trans h.1.tape, hg.output.trans h.1.output, Nat.le_trans h.1.size hg.size, fun b hb hbg => (hg.block b (Nat.lt_of_lt_of_le hb h.1.size) (hb0 b (Nat.lt_of_lt_of_le hb h'.1.size))).trans (h.1.block b hb hbg)⟩, holdsK_block h.2.1 e, h.2.2.1, cs, e.trans hc⟩, ⟨hg.os.trans k.1.os, hg.tape.trans k.1.tape, hg.output.trans k.1.output, Nat.le_trans k.1.size hg.size, fun b hb hbg => (hg.block b (Nat.lt_of_lt_of_le hb k.1.size) (hb0 b hb)).trans (k.1.block b hb hbg)⟩, fun b cs' T hT hb => hold b _ (k.2 b cs' T hT hb) (fun e => hb0 b (Array.getElem?_eq_some_iff.1 hb).1 (by rw [e]))⟩
  le := hn
theorem bahssort_own (base ib : Nat) (v : Value) (l : List (List UInt8)) (w : World) (h : HsOwn base w v l) (hbx : w.heap[ib]? = some (.cells #[v] 52 (0, 0))) (hn : l.length ≤ 1048576) (h0 : 1 ≤ l.length) :
    Calls Tryz.prog 45 #[.iface 52 v, .func (.func 46) #[] #[.pointer (some ⟨ib, 0, none⟩)]] w fun e w' => e = .returned (.tuple #[]) ∧ ∃ l' : List (List UInt8), l'.Perm l ∧ l'.Pairwise (fun x y => lessL y x = false) ∧ HsAt w' v l' ∧ w.grownBy w' v.ownBlock ∧ ∀ g, v.ownBlock = some g → ∃ cs, w'.heap[g]? = some (.cells cs 26 (0, 0)) := by
  obtain ⟨d, rfl⟩ := lift_hs l h.2
  rw [List.length_map] at hn h0
  have h1 := h.1
  rw [List.length_map, hsL_enc] at h1
  have hcase := h1.2
  rcases hcase with ⟨rfl, hz⟩ | ⟨g, cap, cur, rfl, _, hb, hcap, _⟩
  · omega
  · have hH := holds_hs h1
    have hgl : g < w.heap.size := (Array.getElem?_eq_some_iff.1 hb).1
    by_cases h2 : 2 ≤ d.length
    · have hne : ib ≠ g := fun e => by
        rw [e, hb] at hbx
        have := (Obj.cells.inj (Option.some.inj hbx)).2.1
        exact absurd this (by decide)
      have hk := hash_kind d.length h2
      have hbw := below_slice 52 (some ⟨g, 0, none⟩) d.length cap w
      have hp := so_pdq (ba_inst w g ib d.length cap hbx hne hgl hn) swoH (d.length + 1) 0 d.length (Lib.bitLen d.length) d.toArray (sliceWorld Tryz.prog slice_lay_ren 52 (some ⟨g, 0, none⟩) d.length cap w) (by omega) ⟨grownBy_of_below hbw _, holdsK_below hH hgl hbw, by simp, cur, row_below hb hbw⟩ (Nat.zero_le _) (Nat.le_refl _) (Nat.le_trans (Lib.bitLen_le d.length 62 (by omega) (by omega)) (by omega)) (Or.inl rfl)
      have hc := Any.sort_Slice_of_pdq slice_lay 52 26 hsTI hTI (by kernel_rfl) (by kernel_rfl) (by kernel_rfl) (by kernel_rfl) 17 (fun _ => by kernel_rfl) (some ⟨g, 0, none⟩) d.length cap (by omega) 85 (by rw [hk]; kernel_rfl) (.func 46) #[] #[.pointer (some ⟨ib, 0, none⟩)] w (fun w' => soI w g d.length (pdq ltH d.toArray 0 d.length (Lib.bitLen d.length) true true) w') (by
        unfold sliceBound
        rw [hk]
        exact hp.mono fun e w' hh => ⟨hh.1, hh.2.1⟩)
      change Calls Tryz.prog 45 _ _ _ at hc
      refine hc.mono ?_
      rintro e w' ⟨rfl, hI⟩
      have hs := Sort.pdq_sorts ltH swoH d.toArray 0 d.length (Lib.bitLen d.length) true true (Nat.zero_le _) (by simp) (Or.inl rfl)
      generalize pdq ltH d.toArray 0 d.length (Lib.bitLen d.length) true true = d2 at hI hs
      obtain ⟨d2⟩ := d2
      have hlen : d2.length = d.length := by simpa using hI.2.2.1
      refine ⟨rfl, d2.map (·.1), ?_, ?_, ?_, hI.1, fun g' e => by cases e; exact hI.2.2.2⟩
      · have hp2 := hs.1.2.2
        have e1 : (Array.mk d2).extract 0 d.length = Array.mk d2 := by rw [← hlen]; exact Array.extract_size
        have e2 : (d.toArray).extract 0 d.length = d.toArray := by simp
        rw [e1, e2] at hp2
        exact hp2.map _
      · rw [List.pairwise_map, List.pairwise_iff_getElem]
        intro i j hi hj hij
        have hq := hs.2 i j (Nat.zero_le _) hij (by omega)
        rw [getElem!_pos (Array.mk d2) i (by simpa using hi), getElem!_pos (Array.mk d2) j (by simpa using hj)] at hq
        exact hq
      · have h3 := hsAt_holds (cap := cap) (d := d2) hI.2.1 (by omega)
        rw [hlen] at h3
        exact h3
    · have e1 : d.length = 1 := by omega
      have hc := Any.sort_Slice_tiny slice_lay 52 26 hsTI hTI (by kernel_rfl) (by kernel_rfl) (by kernel_rfl) (by kernel_rfl) 17 (fun _ => by kernel_rfl) (some ⟨g, 0, none⟩) d.length cap (by omega) 78 (by rw [e1]; kernel_rfl) (.func 46) #[] #[.pointer (some ⟨ib, 0, none⟩)] w
      change Calls Tryz.prog 45 _ _ _ at hc
      refine hc.mono ?_
      rintro e w' ⟨rfl, os, rfl⟩
      obtain ⟨x, rfl⟩ := List.length_eq_one_iff.1 e1
      exact ⟨rfl, _, List.Perm.refl _, by simp, h.at.below (below_grow w os), grownBy_of_below (below_grow w os) _, fun g' e => by cases e; exact ⟨cur, row_below hb (below_grow w os)⟩⟩
theorem basort_any (base ib : Nat) (v : Value) (l : List (List UInt8)) (w : World) (h : HsOwn base w v l) (hbx : w.heap[ib]? = some (.cells #[v] 52 (0, 0))) (hn : l.length ≤ 1048576) :
    Calls Tryz.prog 45 #[.iface 52 v, .func (.func 46) #[] #[.pointer (some ⟨ib, 0, none⟩)]] w fun e w' => e = .returned (.tuple #[]) ∧ ∃ l' : List (List UInt8), l'.Perm l ∧ l'.Pairwise (fun x y => lessL y x = false) ∧ HsAt w' v l' ∧ w.grownBy w' v.ownBlock ∧ ∀ g, v.ownBlock = some g → ∃ cs, w'.heap[g]? = some (.cells cs 26 (0, 0)) := by
  by_cases h0 : 1 ≤ l.length
  · exact bahssort_own base ib v l w h hbx hn h0
  · obtain rfl : l = [] := List.eq_nil_of_length_eq_zero (by omega)
    obtain ⟨p, c, rfl, hty⟩ : ∃ p c, v = .slice p 0 c ∧ ∀ g, v.ownBlock = some g → ∃ cs, w.heap[g]? = some (.cells cs 26 (0, 0)) := by
      rcases h.1.2 with ⟨rfl, _⟩ | ⟨g, cap, cur, rfl, _, hg, _⟩
      · exact ⟨_, _, rfl, fun g e => by cases e⟩
      · exact ⟨_, _, rfl, fun g e => by cases e; exact ⟨cur, hg⟩⟩
    have hc := Any.sort_Slice_tiny slice_lay 52 26 hsTI hTI (by kernel_rfl) (by kernel_rfl) (by kernel_rfl) (by kernel_rfl) 17 (fun _ => by kernel_rfl) p 0 c (by omega) 77 (by kernel_rfl) (.func 46) #[] #[.pointer (some ⟨ib, 0, none⟩)] w
    change Calls Tryz.prog 45 _ _ _ at hc
    refine hc.mono ?_
    rintro e w' ⟨rfl, os, rfl⟩
    refine ⟨rfl, [], List.Perm.refl _, List.Pairwise.nil, HsAt.nil _ _ _, grownBy_of_below (below_grow w os) _, fun g e => ?_⟩
    obtain ⟨cs, hg⟩ := hty g e
    exact ⟨cs, row_below hg (below_grow w os)⟩
end Go.Proofs.YtdhcjaflbfpalaaGreatDoor.Sha

/-
  Ranging over maps of any keys and values. Nothing that was there turns but the block that ranges. Conditions: the map lies where the value says.
-/
namespace Go.Proofs.YtdhcjaflbfpalaaGreatDoor.Sha
open Go Go.RowKit
open Go.MapKept
open Go.ChangeMaps (setBlock heap_setBlock_same heap_setBlock_other)
section
variable {α β : Type} {kT vT mT : TypeId} {kf : α → Value} {vf : β → Value} {ok : α → Prop} {z : β} {w : World}
/-- Block r goes over the map b; these are still to come. -/
def IterG (kf : α → Value) (vf : β → Value) (ok : α → Prop) (w : World) (b r : Nat) (rest : List (α × β)) : Prop :=
  ∃ es clock since seen c0, w.heap[b]? = some (.map es clock) ∧ Stamped es clock ∧ w.heap[r]? = some (.mapIter (some b) since seen c0) ∧ (∀ x ∈ es.toList, x.born < since) ∧ since ≤ c0 ∧ since ≤ clock ∧
    (leftOf es seen).toList.map kvE = rest.map (fun x => (kf x.1, vf x.2)) ∧ ∀ x ∈ rest, ok x.1
theorem IterG.kps {F : Nat → Prop} {w' : World} {b r : Nat} {rest : List (α × β)} (h : IterG kf vf ok w b r rest) (hk : Kps F w w') (hf : F b) (hr : F r) : IterG kf vf ok w' b r rest := by
  obtain ⟨es, clock, since, seen, c0, hb, h1, h2, h3⟩ := h
  exact ⟨es, clock, since, seen, c0, row_kps hb hk hf, h1, row_kps h2 hk hr, h3⟩
theorem IterG.below {w' : World} {b r : Nat} {rest : List (α × β)} (h : IterG kf vf ok w b r rest) (hb : Below w.heap.size w w') : IterG kf vf ok w' b r rest := by
  obtain ⟨es, clock, since, seen, c0, h0, h1, h2, h3⟩ := h
  exact ⟨es, clock, since, seen, c0, row_below h0 hb, h1, row_below h2 hb, h3⟩
theorem IterG.left {b r : Nat} {rest : List (α × β)} (h : IterG kf vf ok w b r rest) : w.rangeLeft b r = rest.length := by
  obtain ⟨es, clock, since, seen, c0, hb, _, hr, _, _, _, he, _⟩ := h
  have h4 := congrArg List.length he
  simp only [List.length_map, Array.length_toList] at h4
  simp only [World.rangeLeft, hb, hr]
  exact h4
theorem IterG.ne {b r : Nat} {rest : List (α × β)} (h : IterG kf vf ok w b r rest) : r ≠ b := fun e => by
  obtain ⟨es, clock, since, seen, c0, hb, _, hr, _⟩ := h
  rw [e, hb] at hr
  cases hr
theorem IterG.row {b r g : Nat} {rest : List (α × β)} (h : IterG kf vf ok w b r rest) {cs : Array Value} {T : TypeId} {fr : Nat × Nat} (hg : w.heap[g]? = some (.cells cs T fr)) : g ≠ r ∧ g ≠ b := by
  obtain ⟨es, clock, since, seen, c0, hb, _, hr, _⟩ := h
  refine ⟨fun e => ?_, fun e => ?_⟩
  · rw [e, hr] at hg; cases hg
  · rw [e, hb] at hg; cases hg
theorem run_range_g (M : MTy α β kT vT mT kf vf ok z) {b : Nat} {l : List (α × β)} (h : MpAt kf vf ok w b l) : ∃ w', (Instr.range mT (.map (some b))).run Tryz.prog w = .ok (.pointer (some ⟨w.heap.size, 0, none⟩)) w' ∧ IterG kf vf ok w' b w.heap.size l ∧ Below w.heap.size w w' ∧ w'.heap.size = w.heap.size + 1 := by
  have hlt := MpAt.lt h
  obtain ⟨es, clock, hb, hs, he, ho⟩ := h
  refine ⟨_, run_range_map w _ _ _ b es clock M.und hb, ⟨es, clock, clock, #[], clock, ?_, hs, heap_alloc_new w _, hs.1, Nat.le_refl _, Nat.le_refl _, ?_, ho⟩, (Below.refl _ _).alloc (Nat.le_refl _) _, by simp⟩
  · exact (MapKept.heap_alloc w _).2 b hlt ▸ hb
  · have e0 : leftOf es #[] = es := by
      unfold leftOf
      exact Array.filter_eq_self.2 (by simp)
    rw [e0]
    exact he
theorem run_next_g {b r : Nat} {rest : List (α × β)} (h : IterG kf vf ok w b r rest) (ty : TypeId) :
    (rest = [] ∧ (Instr.next (.pointer (some ⟨r, 0, none⟩)) false ty).run Tryz.prog w = .ok (.tuple #[.bool false]) w) ∨
    ∃ x rest' w', rest.Perm (x :: rest') ∧ ok x.1 ∧ (Instr.next (.pointer (some ⟨r, 0, none⟩)) false ty).run Tryz.prog w = .ok (.tuple #[.bool true, kf x.1, vf x.2]) w' ∧ IterG kf vf ok w' b r rest' ∧ w.grownBy w' (some r) ∧ w'.heap.size = w.heap.size ∧
      (Instr.entry (.pointer (some ⟨r, 0, none⟩))).run Tryz.prog w' = .ok (.tuple #[kf x.1, vf x.2]) w' := by
  have hne := h.ne
  obtain ⟨es, clock, since, seen, c0, hb, hs, hr, hold, hsc, hsk, he, ho⟩ := h
  have hst := (stamped_iff es clock).1 hs
  rcases run_next_at (P := Tryz.prog) w ty r b since c0 seen es clock hr hb hold hsc with ⟨h0, hrun⟩ | ⟨e, hem, w1, hal, hrun⟩
  · refine .inl ⟨?_, hrun⟩
    have h4 := congrArg List.length he
    simp only [List.length_map, Array.length_toList, h0] at h4
    exact List.eq_nil_of_length_eq_zero h4.symm
  · obtain ⟨hm, hc⟩ := mem_left hem
    have hr1 : w1.heap[r]? = some (.mapIter (some b) since seen c0) := by rcases hal with rfl | rfl <;> exact hr
    have hb1 : w1.heap[b]? = some (.map es clock) := by rcases hal with rfl | rfl <;> exact hb
    have hset := heap_set (o' := .mapIter (some b) since (seen.push e.born) clock) hr1
    have hb' : (setBlock w1 r (.mapIter (some b) since (seen.push e.born) clock)).heap[b]? = some (.map es clock) := (hset.2 b (fun e1 => hne e1.symm)).trans hb1
    have hperm := (left_perm hst.2.1 hem).map kvE
    rw [he, List.map_cons] at hperm
    have hmem : kvE e ∈ rest.map (fun x => (kf x.1, vf x.2)) := hperm.mem_iff.2 List.mem_cons_self
    obtain ⟨x, hx, hxe⟩ := List.mem_map.1 hmem
    obtain ⟨s, t, rfl⟩ := List.append_of_mem hx
    have hp1 : (s ++ x :: t).Perm (x :: (s ++ t)) := List.perm_middle
    have hp2 : ((s ++ t).map (fun x => (kf x.1, vf x.2))).Perm ((leftOf es (seen.push e.born)).toList.map kvE) := by
      have h5 := (hp1.map (fun x => (kf x.1, vf x.2))).symm.trans hperm
      rw [List.map_cons, hxe] at h5
      exact (List.perm_cons _).1 h5
    obtain ⟨rest', hp3, hr'⟩ : ∃ rest', (s ++ t).Perm rest' ∧ (leftOf es (seen.push e.born)).toList.map kvE = rest'.map (fun x => (kf x.1, vf x.2)) := perm_map_ex hp2
    rw [kvE, Prod.mk.injEq] at hxe
    refine .inr ⟨x, rest', _, hp1.trans (hp3.cons x), ho x hx, by rw [hxe.1, hxe.2]; exact hrun, ⟨es, clock, since, seen.push e.born, clock, hb', hs, hset.1, hold, hsk, hsk, hr', fun y hy => ho y (hp1.mem_iff.2 (List.mem_cons_of_mem _ (hp3.mem_iff.2 hy)))⟩, ?_, ?_, ?_⟩
    · rcases hal with rfl | rfl <;> exact ⟨rfl, rfl, rfl, by simp [setBlock], fun i _ hi => hset.2 i (fun e1 => hi (by rw [e1]))⟩
    · rcases hal with rfl | rfl <;> simp [setBlock]
    · rw [hxe.1, hxe.2]
      exact run_entry_at _ r b since seen es clock e hset.1 hb' hm hst.2.1
variable {ops : Array Oper} {rest : List Oper} {o : Oper} {a : Act} {Q : Exit → Act → World → Prop}
theorem wpList_range_g (M : MTy α β kT vT mT kf vf ok z) (hg : o.guard = none) (x : Operand) (hop : o.op = Op.range mT x) (b : Nat) (l : List (α × β)) (hx : a.eval x = .map (some b)) (h : MpAt kf vf ok w b l)
    (hK : ∀ w', IterG kf vf ok w' b w.heap.size l → Below w.heap.size w w' → w'.heap.size = w.heap.size + 1 → wpList Tryz.prog ops Q rest (a.put o.dst (.pointer (some ⟨w.heap.size, 0, none⟩))) w') : wpList Tryz.prog ops Q (o :: rest) a w := by
  refine wpList_plain hg fun K' hK' => ?_
  obtain ⟨w', hrun, r1, r2, r3⟩ := run_range_g M h
  unfold Oper.wp
  simp [execOp, hop, hx, hrun, Result.andThen]
  exact hK' _ _ (hK w' r1 r2 r3)
theorem wpList_next_g (hg : o.guard = none) (it : Operand) (hop : o.op = Op.next it false) (b r : Nat) (l : List (α × β)) (hit : a.eval it = .pointer (some ⟨r, 0, none⟩)) (h : IterG kf vf ok w b r l)
    (hDone : l = [] → wpList Tryz.prog ops Q rest (a.put o.dst (.tuple #[.bool false])) w)
    (hMore : ∀ (x : α × β) (l' : List (α × β)) (w' : World), l.Perm (x :: l') → ok x.1 → IterG kf vf ok w' b r l' → w.grownBy w' (some r) → w'.heap.size = w.heap.size →
      (Instr.entry (.pointer (some ⟨r, 0, none⟩))).run Tryz.prog w' = .ok (.tuple #[kf x.1, vf x.2]) w' → wpList Tryz.prog ops Q rest (a.put o.dst (.tuple #[.bool true, kf x.1, vf x.2])) w') :
    wpList Tryz.prog ops Q (o :: rest) a w := by
  refine wpList_plain hg fun K' hK' => ?_
  unfold Oper.wp
  rcases run_next_g h o.type with ⟨h0, hrun⟩ | ⟨x, l', w', hp, hx, hrun, hi, hgr, hsz, hen⟩
  · simp [execOp, hop, hit, hrun, Result.andThen]
    exact hK' _ _ (hDone h0)
  · simp [execOp, hop, hit, hrun, Result.andThen]
    exact hK' _ _ (hMore x l' w' hp hx hi hgr hsz hen)
end
end Go.Proofs.YtdhcjaflbfpalaaGreatDoor.Sha
