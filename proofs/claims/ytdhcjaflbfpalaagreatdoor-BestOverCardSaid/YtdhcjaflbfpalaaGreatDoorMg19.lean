/-
  Texts of this proof joined into one file: MkRootRef, BlRefStart, TwGrow, BoSt, BoFirst. What each holds, and under which conditions, its own first sentence tells.
-/
import Derived.Test.YtdhcjaflbfpalaaGreatDoorMg09
import Derived.Test.YtdhcjaflbfpalaaGreatDoorMg18
import Derived.Test.YtdhcjaflbfpalaaGreatDoorMg10
import Derived.Test.YtdhcjaflbfpalaaGreatDoorMg03
import Derived.Test.YtdhcjaflbfpalaaGreatDoorMg07
import Derived.Test.YtdhcjaflbfpalaaGreatDoorMg11
import Derived.Test.YtdhcjaflbfpalaaGreatDoorMg01
import Derived.Test.YtdhcjaflbfpalaaGreatDoorMg08
import Derived.Test.YtdhcjaflbfpalaaGreatDoorMg12
/-
  The statements' own Root answers the root. Nothing that was there turns. Conditions: the digests lie where the slice says; at most 2^20 of them.
-/
namespace Go.Proofs.YtdhcjaflbfpalaaGreatDoor.Sha
open Go Go.RowKit
def rootRInv (R : List UInt8) (w : World) (vl : Value) (wr : World) : Prop :=
  ∃ l' : List (List UInt8), HsAt wr vl l' ∧ 1 ≤ l'.length ∧ l'.length ≤ 1048576 ∧ rootL prH zM l' = R ∧ Below w.heap.size w wr ∧ wr.heap[w.heap.size]? = some (.cells (List.replicate 32 (bV 0)).toArray 26 (0, 0))
set_option maxHeartbeats 2000000 in
set_option maxRecDepth 100000 in
theorem rootR_any (l : List (List UInt8)) (sp : Option Addr) (n cap : Nat) (w : World) (hl : HsAt w (.slice sp n cap) l) (hn : n ≤ 1048576) :
    Calls Tryz.prog 49 #[.slice sp n cap] w fun e w' => e = .returned (.agg ((rootL prH zM l).map bV).toArray) ∧ Below w.heap.size w w' := by
  have hlen := rootL_len _ l rfl hl.1
  have hln := hl.len.1
  have h0r : n = 0 → rootL prH zM l = zM := fun h => by
    rw [rootL_one prH zM (by omega), List.getD_eq_getElem?_getD, List.getElem?_eq_none (by omega)]
    rfl
  obtain ⟨R, hR⟩ : ∃ R, R = rootL prH zM l := ⟨_, rfl⟩
  rw [← hR] at hlen h0r ⊢
  have HR := Lib.hid hR
  have HS : Hid ((R.map bV).toArray.size = 32) := by show _ = _; simp [hlen]
  have HLR : Hid ((R.map bV).length = 32) := by show _ = _; simp [hlen]
  have HZ := Lib.hid h0r
  have HL := Lib.hid hl
  have HN := Lib.hid hln

  clear hR hlen hl hln h0r
  go_enter Tryz.func49, Tryz.ntmps49
  go_upto_region 1 with fail
  have F := Lib.hid (heap_alloc_new w (.cells (List.replicate 32 (bV 0)).toArray 26 (0, 0)))
  have B := Lib.hid ((Below.refl w.heap.size w).alloc (Nat.le_refl _) (.cells (List.replicate 32 (bV 0)).toArray 26 (0, 0)))
  generalize hw1 : World.alloc _ _ = w1
  have e1 : w.alloc (.cells (List.replicate 32 (bV 0)).toArray 26 (0, 0)) = w1 := hw1
  rw [e1] at F B
  clear hw1 e1
  by_cases h0 : n = 0
  · have t0 : ((n : Int) == 0) = true := by rw [beq_iff_eq]; omega
    obtain rfl : R = zM := HZ.out h0
    clear h0
    go_wp2_with ((with_reducible show wpList _ _ _ _ _ _); refine wpList_store_row rfl 26 (.tmp 2) (.tmp 6) rfl w.heap.size (zM.map bV).toArray rfl rfl 26 _ F.out (by rw [HS.out]; kernel_rfl) (by rw [HS.out]; rfl) (bV_one _) ?_; go_frame)
    refine bodyPost_ret (results_cell_row rfl _ _ w.heap.size 26 (zM.map bV).toArray (0, 0) (.array 32 5) rfl (setRow_heap _ _ _ _ _ _ F.out) Tryz.underlying26 rfl (by rw [HS.out]; kernel_rfl)) rfl ⟨rfl, below_setRow B.out (Nat.le_refl _) _⟩
  · have t0 : ((n : Int) == 0) = false := by rw [beq_eq_false_iff_ne]; omega
    have h1 : 1 ≤ n := by omega
    clear h0
    go_wp2_with fail
    go_loopw [0] (fun vl wr => rootRInv R w vl wr) (fun vl _ => slLen vl)
    case atStart => exact ⟨l, HL.out.below B.out, by have := HN.out; omega, by have := HN.out; omega, HR.out.symm, B.out, F.out⟩
    case round =>
      clear F B HL HN HR
      obtain ⟨l', hl, hm1, hm2, hr, hb, hf⟩ := hrel
      obtain ⟨sp', cap', rfl⟩ := hl.shape
      obtain ⟨m, hm⟩ : ∃ m, m = l'.length := ⟨_, rfl⟩
      rw [← hm] at hl hm1 hm2 ⊢
      have HL := Lib.hid hl
      have HM := Lib.hid hm
      have HR := Lib.hid hr
      have B := Lib.hid hb
      have F := Lib.hid hf
      clear hl hm hr hb hf
      by_cases h1m : 1 < m
      · have t1 : (m : Int) > 1 := by omega
        go_wp2_with fail
        refine (row_ref l' sp' m cap' _ HL.out hm2).mono ?_
        rintro e w2 ⟨v2, rfl, ho, hb2⟩
        obtain ⟨sp2, cap2, rfl⟩ := ho.at.shape
        obtain ⟨m2, hm3⟩ : ∃ m2, m2 = (rowL prH l').length := ⟨_, rfl⟩
        have hm4 : m2 = (m + 1) / 2 := by rw [hm3, rowL_length, ← HM.out]
        have HO := Lib.hid ho
        rw [← hm3] at HO ⊢
        have HM3 := Lib.hid hm3
        have B2 := Lib.hid (B.out.trans (hb2.mono B.out.size))
        have F2 := Lib.hid (row_below F.out hb2)
        have hm5 : 1 ≤ m2 := by omega
        have hm6 : m2 < m := by omega
        have HR2 : Hid (rootL prH zM (rowL prH l') = R) := by
          show _ = _
          rw [← rootL_more prH zM (by rw [← HM.out]; exact h1m)]
          exact HR.out
        clear ho hm3 hb2 hm4
        go_wp2_with fail
        go_roundw
        case rel => exact ⟨rowL prH l', HO.out.at, by rw [← HM3.out]; exact hm5, by rw [← HM3.out]; omega, HR2.out, B2.out, F2.out⟩
        case measure => exact hm6
      · have t1 : ¬ (m : Int) > 1 := by omega
        obtain rfl : m = 1 := by omega
        obtain ⟨b, o, rfl, hbw, hg⟩ := HL.out.get (by omega)
        have X : Hid (wr.rangeAt b o (R.map bV)) := by
          have h := hg 0 (by omega)
          rw [Nat.zero_mul, Nat.add_zero, getD_any (by have := HM.out; omega), ← rootL_one prH zM (by have := HM.out; omega), HR.out] at h
          exact h
        clear hg
        go_wp2_with ((with_reducible show wpList _ _ _ _ _ _); first | (refine wpList_load_mid rfl 26 (.tmp 13) rfl b o rfl (R.map bV) _ X.out Tryz.underlying26 rfl (by rw [HLR.out]; kernel_rfl) ?_; go_frame) | (refine wpList_store_row rfl 26 (.tmp 2) (.tmp 14) rfl w.heap.size (R.map bV).toArray rfl rfl 26 _ F.out (by rw [HS.out]; kernel_rfl) (by rw [HS.out]; rfl) (bV_one _) ?_; go_frame))
        refine bodyPost_ret (results_cell_row rfl _ _ w.heap.size 26 (R.map bV).toArray (0, 0) (.array 32 5) rfl (setRow_heap _ _ _ _ _ _ F.out) Tryz.underlying26 rfl (by rw [HS.out]; kernel_rfl)) rfl ⟨rfl, below_setRow B.out (Nat.le_refl _) _⟩
end Go.Proofs.YtdhcjaflbfpalaaGreatDoor.Sha

/-
  The statements' own first transaction, their own block that each chain begins with. New memory; nothing that was there turns. Conditions: the bytes that are added lie where the slice says.
-/
namespace Go.Proofs.YtdhcjaflbfpalaaGreatDoor.Sha
open Go Go.RowKit
theorem rootR_v (l : List (List UInt8)) (R : List UInt8) (v : Value) (w : World) (h : HsAt w v l) (hn : l.length ≤ 1048576) (hR : rootL prH zM l = R) :
    Calls Tryz.prog 49 #[v] w fun e w' => e = .returned (.agg (R.map bV).toArray) ∧ Below w.heap.size w w' := by
  obtain ⟨sp, cap, rfl⟩ := h.shape
  rw [← hR]
  exact rootR_any l sp _ cap w h hn
theorem own_keyAt {w : World} {base : Nat} {v : Value} {key : List UInt8} (h : w.ownsRow base 5 1 v key.length (key.map bV)) : KeyAt w v key ∧ ∀ sp n cap, v = .slice (some sp) n cap → base ≤ sp.block := by
  refine ⟨⟨src_own h, ?_⟩, fun sp n cap hv => ?_⟩
  · rcases h.2 with ⟨rfl, hn⟩ | ⟨g, cap, cur, rfl, _⟩
    · exact ⟨_, _, by rw [hn]⟩
    · exact ⟨_, _, rfl⟩
  · have := h.lt sp.block (by rw [hv]; rfl)
    exact this.1
set_option maxHeartbeats 4000000 in
set_option maxRecDepth 100000 in
theorem rfirst_any (h : Int) (h32 val : Nat) (lock ex : List UInt8) (ve : Value) (w : World) (hh : IntKind.u32.wrap h = (h32 : Int)) (h3 : h32 ≤ 4294967295) (hv : val ≤ 18446744073709551615) (hl : lock.length = 32) (hs : SrcB w ve ex) (he : ex.length ≤ 70368744170000) :
    Calls Tryz.prog 30 #[.int .i64 h, .int .u64 (val : Int), .agg (lock.map bV).toArray, ve] w fun e w' => ∃ v', e = .returned v' ∧ TxNew w w' v' (firstT h32 val lock ex) ∧ Below w.heap.size w w' := by
  obtain ⟨i0, hi, hz0, hz1, hz2⟩ := info_parts info_u8
  obtain ⟨i2, hi2, hx0, hx1, hx2⟩ := info_parts info_in
  obtain ⟨i3, hi3, hv0, hv1, hv2⟩ := info_parts info_out
  obtain ⟨se, ne, ce, rfl, q1, q2⟩ := hs.shape'
  clear q1 q2
  have H32 := Lib.hid h3
  have LK := Lib.hid hl
  have LL : Hid ((lock.map bV).toArray.size = 32) := by show _ = _; simp [hl]
  have LO : Hid ((outL ⟨val, lock⟩).length = 33) := outL_length _ hl
  have VB := Lib.hid hv
  have SE := Lib.hid hs
  have LE := Lib.hid he
  clear hl hs he hv h3
  go_enter Tryz.func30, Tryz.ntmps30
  go_upto_region 1 with fail
  have f1 := row_below (heap_alloc_new w (.cells (lock.map bV).toArray 26 (0, 0))) ((Below.refl _ _).alloc (Nat.le_refl _) (.cells [nV 0, .slice none 0 0, .slice none 0 0, nV 0].toArray 63))
  have f2 := heap_alloc_new (w.alloc (.cells (lock.map bV).toArray 26 (0, 0))) (.cells [nV 0, .slice none 0 0, .slice none 0 0, nV 0].toArray 63)
  have b1 := ((Below.refl w.heap.size w).alloc (Nat.le_refl _) (.cells (lock.map bV).toArray 26 (0, 0))).alloc (by simp) (.cells [nV 0, .slice none 0 0, .slice none 0 0, nV 0].toArray 63)
  rw [World.size_alloc] at f2
  generalize hw1 : World.alloc _ _ = w1
  have e1 : (w.alloc (.cells (lock.map bV).toArray 26 (0, 0))).alloc (.cells [nV 0, .slice none 0 0, .slice none 0 0, nV 0].toArray 63) = w1 := hw1
  rw [e1] at f1 f2 b1
  have F1 := Lib.hid f1
  have FT := Lib.hid f2
  have B1 := Lib.hid b1
  have LT1 : Hid (w.heap.size + 1 < w1.heap.size) := (Array.getElem?_eq_some_iff.1 f2).1
  clear f1 f2 b1 hw1 e1
  go_wp2_with fail
  refine (rfour_g h32 w1.heap.size [] _ w1 H32.out (Nat.le_refl _) (by simp) (World.ownsRow_nil _ _ _ _)).mono ?_
  rintro e w4 ⟨v4, rfl, hg4⟩
  have G4 := Lib.hid hg4
  have F1 := Lib.hid (row_far F1.out hg4.2.1 (by intro h; cases h))
  have FT := Lib.hid (row_far FT.out hg4.2.1 (by intro h; cases h))
  clear hg4
  go_upto_region 2 with ((with_reducible show wpList _ _ _ _ _ _); refine wpList_append_g _ rfl (.tmp 12) (.tmp 13) 89 rfl w1.heap.size 5 i0 Tryz.underlying89 hi hz0 hz1 hz2 _ _ _ (by rfl) G4.out.1 (.slice se ne ce) ex (by rfl) ((SE.out.below B1.out).below (G4.out.below (fun k hk => by cases hk) (Nat.le_refl _))) (by have := LE.out; simp [leB_length]; omega) G4.out.2.2.2 ?_; intro v5 w5 a1 a2 a3; have A1 := Lib.hid a1; have A2 := Lib.hid a2; have A3 := Lib.hid (G4.out.app a1 a2 a3); clear a1 a2 a3; go_frame)
  have LO4 : Hid (∀ k, v4.ownBlock = some k → w1.heap.size ≤ k) := fun k hk => (G4.out.1.lt k hk).1
  have F1 := Lib.hid (row_far F1.out A2.out (by intro h; have := LO4.out _ h; have := LT1.out; omega))
  have FT := Lib.hid (row_far FT.out A2.out (by intro h; have := LO4.out _ h; have := LT1.out; omega))
  have B5 : Hid (Below w.heap.size w w5) := B1.out.trans ((A3.out.below (fun k hk => by cases hk) B1.out.size))
  obtain ⟨kk, hk5⟩ := own_keyAt (key := leB h32 4 ++ ex) (show w5.ownsRow w1.heap.size 5 1 v5 (leB h32 4 ++ ex).length ((leB h32 4 ++ ex).map bV) from A3.out.1)
  obtain ⟨sk, nk, ck, rfl, q1, q2⟩ := kk.1.shape'
  have KK := Lib.hid kk
  have GK : Hid (∀ sp, sk = some sp → w.heap.size + 1 < sp.block) := fun sp e => by subst e; have := hk5 _ _ _ rfl; have := LT1.out; omega
  clear kk hk5 q1 q2 A1 A2 A3 G4 LO4
  refine wp_region_held_drew (S := (fun w' => Below w.heap.size w w' ∧ w'.heap[w.heap.size]? = some (.cells (lock.map bV).toArray 26 (0, 0)))) (by kernel_rfl) (⟨Below.drew B5.out, F1.out⟩) (fun hHeld => ?_)
  have FT : Hid (w5.drew.heap[w.heap.size + 1]? = some (.cells [nV 0, .slice none 0 0, .slice none 0 0, nV 0].toArray 63 (0, 0))) := FT.out
  have KK : Hid (KeyAt w5.drew (.slice sk nk ck) (leB h32 4 ++ ex)) := KK.out
  generalize hwd : w5.drew = wd at FT KK hHeld ⊢
  clear hwd
  refine held_take (i := 1) (v := (.slice sk nk ck)) rfl (by kernel_rfl) (by kernel_rfl) (by kernel_rfl) (fun _ _ _ h => h) (Or.inl ⟨by rfl, fun w' _ => by kernel_rfl⟩) hHeld ?_
  go_frame
  refine held_take (i := 4) (v := (.int .u64 (val : Int))) rfl (by kernel_rfl) (by kernel_rfl) (by kernel_rfl) (fun _ _ _ h => h) (Or.inl ⟨by rfl, fun w' _ => by kernel_rfl⟩) hHeld ?_
  go_frame
  refine held_take (i := 5) (v := (.agg (lock.map bV).toArray)) rfl (by kernel_rfl) (by kernel_rfl) (by kernel_rfl) (fun _ _ _ h => h) (yieldsIf_load_row (by rfl) 26 (.tmp 6) rfl w.heap.size rfl 26 (lock.map bV).toArray (0, 0) _ (fun w' hw' => hw'.2) Tryz.underlying26 rfl (by rw [LL.out]; kernel_rfl)) hHeld ?_
  go_frame
  refine held_take (i := 6) (v := (.agg (outL ⟨val, lock⟩).toArray)) rfl (by kernel_rfl) (by kernel_rfl) (by kernel_rfl) (fun _ _ _ h => h) (yieldsIf_build (by rfl) 116 _ rfl [(0, .int .u64 (val : Int)), (1, .agg (lock.map bV).toArray)] (by kernel_rfl) _ (built_outl val lock LK.out)) hHeld ?_
  go_frame
  refine wpAnyH_ready (rs := [0, 7]) (by kernel_rfl) (by simp) (held_cons rfl (fun K hK => ?_) (held_cons rfl (fun K hK => ?_) AllReadyH.nil))
  · skip
    go_simp
    refine (rnull_any _).mono ?_
    rintro e v1 ⟨rfl, bb⟩
    have FT := Lib.hid (row_below FT.out bb)
    have KK := Lib.hid (KK.out.below bb)
    have hv1 := (show _ ∧ _ from ⟨hHeld.1.trans (bb.mono hHeld.1.size), row_below hHeld.2 bb⟩)
    clear bb hHeld
    go_wp2_with fail
    refine hK.out _ _ hv1 (fun hHeld => ?_)
    clear hK K hv1
    refine held_take (i := 2) (v := (.agg (inL (firstX h32 ex) (.slice sk nk ck)).toArray)) rfl (by kernel_rfl) (by kernel_rfl) (by kernel_rfl) (fun _ _ _ h => h) (yieldsIf_build (by rfl) 114 _ rfl [(0, .agg nullL.toArray), (1, .slice sk nk ck), (2, .int .u32 4294967295)] (by kernel_rfl) _ (by kernel_rfl)) hHeld ?_
    go_frame
    refine wpAnyH_ready (rs := [3, 7]) (by kernel_rfl) (by simp) (held_cons rfl (fun K hK => ?_) (held_cons rfl (fun K hK => ?_) AllReadyH.nil))
    · skip
      rw [if_pos (by rfl)]
      refine wp_slice_one 60 114 (.tmp 17) rfl (inL (firstX h32 ex) (.slice sk nk ck)) rfl Tryz.underlying60 i2 _ hi2 hx0 (by rw [hx1]; rfl) (by show 0 < 35; omega) (by show 35 ≤ _; omega) ?_
      have nf := heap_alloc_new v1 (.cells (inL (firstX h32 ex) (.slice sk nk ck)).toArray 114 (0, 0))
      have bb := (Below.refl v1.heap.size v1).alloc (Nat.le_refl _) (.cells (inL (firstX h32 ex) (.slice sk nk ck)).toArray 114 (0, 0))
      obtain ⟨gv2, hgv2⟩ : ∃ g, g = v1.heap.size := ⟨_, rfl⟩
      generalize hqv2 : World.alloc _ _ = v2
      have ev2 : v1.alloc (.cells (inL (firstX h32 ex) (.slice sk nk ck)).toArray 114 (0, 0)) = v2 := hqv2
      rw [ev2] at nf bb
      rw [← hgv2] at nf ⊢
      have NI := Lib.hid nf
      have GNI : Hid (w.heap.size + 1 < gv2) := by show _ < _; rw [hgv2]; exact (Array.getElem?_eq_some_iff.1 FT.out).1
      have FT := Lib.hid (row_below FT.out bb)
      have KK := Lib.hid (KK.out.below bb)
      have hv2 := (show _ ∧ _ from ⟨hHeld.1.trans (bb.mono hHeld.1.size), row_below hHeld.2 bb⟩)
      clear nf bb hqv2 ev2 hgv2 hHeld
      go_frame
      refine hK.out _ _ hv2 (fun hHeld => ?_)
      clear hK K hv2
      refine wpAnyH_ready (rs := [7]) (by kernel_rfl) (by simp) (held_cons rfl (fun K hK => ?_) AllReadyH.nil)
      rw [if_pos (by rfl)]
      refine wp_slice_one 61 116 (.tmp 21) rfl (outL ⟨val, lock⟩) rfl Tryz.underlying61 i3 _ hi3 hv0 (by rw [hv1, LO.out]) (by rw [LO.out]; omega) (by rw [LO.out]; omega) ?_
      have nf := heap_alloc_new v2 (.cells (outL ⟨val, lock⟩).toArray 116 (0, 0))
      have bb := (Below.refl v2.heap.size v2).alloc (Nat.le_refl _) (.cells (outL ⟨val, lock⟩).toArray 116 (0, 0))
      obtain ⟨gv3, hgv3⟩ : ∃ g, g = v2.heap.size := ⟨_, rfl⟩
      generalize hqv3 : World.alloc _ _ = v3
      have ev3 : v2.alloc (.cells (outL ⟨val, lock⟩).toArray 116 (0, 0)) = v3 := hqv3
      rw [ev3] at nf bb
      rw [← hgv3] at nf ⊢
      have NO := Lib.hid nf
      have GNO : Hid (w.heap.size + 1 < gv3) := by show _ < _; rw [hgv3]; exact (Array.getElem?_eq_some_iff.1 FT.out).1
      have FT := Lib.hid (row_below FT.out bb)
      have KK := Lib.hid (KK.out.below bb)
      have NI := Lib.hid (row_below NI.out bb)
      have hv3 := (show _ ∧ _ from ⟨hHeld.1.trans (bb.mono hHeld.1.size), row_below hHeld.2 bb⟩)
      clear nf bb hqv3 ev3 hgv3 hHeld
      go_frame
      refine hK.out _ _ hv3 (fun hHeld => ?_)
      clear hK K hv3
      refine held_take (i := 8) (v := (.agg ([nV 1, (.slice (some ⟨gv2, 0, none⟩) 1 1), (.slice (some ⟨gv3, 0, none⟩) 1 1), nV 0]).toArray)) rfl (by kernel_rfl) (by kernel_rfl) (by kernel_rfl) (fun _ _ _ h => h) (yieldsIf_build (by rfl) 63 _ rfl [(0, .int .u32 1), (1, (.slice (some ⟨gv2, 0, none⟩) 1 1)), (2, (.slice (some ⟨gv3, 0, none⟩) 1 1))] (by kernel_rfl) _ (by kernel_rfl)) hHeld ?_
      go_frame
      refine wpAnyH_ready (rs := [9]) (by kernel_rfl) (by simp) (held_cons rfl (fun K hK => ?_) AllReadyH.nil)
      rw [if_pos (by rfl)]
      refine wp_store_whole 63 (.tmp 8) (.tmp 23) rfl (w.heap.size + 1) [nV 0, .slice none 0 0, .slice none 0 0, nV 0] [nV 1, (.slice (some ⟨gv2, 0, none⟩) 1 1), (.slice (some ⟨gv3, 0, none⟩) 1 1), nV 0] 63 rfl rfl (rfl) FT.out (by kernel_rfl) (by kernel_rfl) ?_
      intro v4 q1 q2
      have FT := Lib.hid q1
      have KK := Lib.hid (KeyAt.off KK.out (fun sp n cap hv _ hq => by cases hv; have e : w.heap.size + 1 = sp.block := Option.some.inj hq; have := GK.out sp rfl; omega) q2)
      have NI := Lib.hid (row_far NI.out q2 (by intro h; have := Option.some.inj h; have := GNI.out; omega))
      have NO := Lib.hid (row_far NO.out q2 (by intro h; have := Option.some.inj h; have := GNO.out; omega))
      have hv4 := (show _ ∧ _ from ⟨hHeld.1.grown q2 hHeld.1.size (fun k hk => by cases hk; omega), row_far hHeld.2 q2 (by intro h; have := Option.some.inj h; omega)⟩)
      clear q1 q2 hHeld
      go_frame
      refine hK.out _ _ hv4 (fun hHeld => ?_)
      clear hK K hv4
      refine wpAnyH_done (by kernel_rfl) ?_ _
      have BZ := Lib.hid hHeld.1
      clear hHeld
      go_wp2_with fail
      refine bodyPost_ret (results_cell_row rfl _ _ (w.heap.size + 1) 63 ([nV 1, (.slice (some ⟨gv2, 0, none⟩) 1 1), (.slice (some ⟨gv3, 0, none⟩) 1 1), nV 0]).toArray (0, 0) _ rfl FT.out Tryz.underlying63 rfl (by kernel_rfl)) rfl ?_
      exact ⟨_, rfl, fun W hW => ⟨⟨by show 1 ≤ _; omega, by show 0 ≤ _; omega⟩, _, _, rfl, insAt_one (row_kps NI.out hW (by have := GNI.out; show _ ≤ _; omega)) (x := firstX h32 ex) (firstX_ok ex H32.out) (KK.out.kps (fun sp n cap hv _ => by cases hv; have := GK.out sp rfl; show w.heap.size ≤ sp.block; omega) hW), outsAt_one (row_kps NO.out hW (by have := GNO.out; show _ ≤ _; omega)) (y := ⟨val, lock⟩) ⟨LK.out, VB.out⟩⟩, BZ.out⟩
    · skip
      rw [if_pos (by rfl)]
      refine wp_slice_one 61 116 (.tmp 21) rfl (outL ⟨val, lock⟩) rfl Tryz.underlying61 i3 _ hi3 hv0 (by rw [hv1, LO.out]) (by rw [LO.out]; omega) (by rw [LO.out]; omega) ?_
      have nf := heap_alloc_new v1 (.cells (outL ⟨val, lock⟩).toArray 116 (0, 0))
      have bb := (Below.refl v1.heap.size v1).alloc (Nat.le_refl _) (.cells (outL ⟨val, lock⟩).toArray 116 (0, 0))
      obtain ⟨gv5, hgv5⟩ : ∃ g, g = v1.heap.size := ⟨_, rfl⟩
      generalize hqv5 : World.alloc _ _ = v5
      have ev5 : v1.alloc (.cells (outL ⟨val, lock⟩).toArray 116 (0, 0)) = v5 := hqv5
      rw [ev5] at nf bb
      rw [← hgv5] at nf ⊢
      have NO := Lib.hid nf
      have GNO : Hid (w.heap.size + 1 < gv5) := by show _ < _; rw [hgv5]; exact (Array.getElem?_eq_some_iff.1 FT.out).1
      have FT := Lib.hid (row_below FT.out bb)
      have KK := Lib.hid (KK.out.below bb)
      have hv5 := (show _ ∧ _ from ⟨hHeld.1.trans (bb.mono hHeld.1.size), row_below hHeld.2 bb⟩)
      clear nf bb hqv5 ev5 hgv5 hHeld
      go_frame
      refine hK.out _ _ hv5 (fun hHeld => ?_)
      clear hK K hv5
      refine wpAnyH_ready (rs := [3]) (by kernel_rfl) (by simp) (held_cons rfl (fun K hK => ?_) AllReadyH.nil)
      rw [if_pos (by rfl)]
      refine wp_slice_one 60 114 (.tmp 17) rfl (inL (firstX h32 ex) (.slice sk nk ck)) rfl Tryz.underlying60 i2 _ hi2 hx0 (by rw [hx1]; rfl) (by show 0 < 35; omega) (by show 35 ≤ _; omega) ?_
      have nf := heap_alloc_new v5 (.cells (inL (firstX h32 ex) (.slice sk nk ck)).toArray 114 (0, 0))
      have bb := (Below.refl v5.heap.size v5).alloc (Nat.le_refl _) (.cells (inL (firstX h32 ex) (.slice sk nk ck)).toArray 114 (0, 0))
      obtain ⟨gv6, hgv6⟩ : ∃ g, g = v5.heap.size := ⟨_, rfl⟩
      generalize hqv6 : World.alloc _ _ = v6
      have ev6 : v5.alloc (.cells (inL (firstX h32 ex) (.slice sk nk ck)).toArray 114 (0, 0)) = v6 := hqv6
      rw [ev6] at nf bb
      rw [← hgv6] at nf ⊢
      have NI := Lib.hid nf
      have GNI : Hid (w.heap.size + 1 < gv6) := by show _ < _; rw [hgv6]; exact (Array.getElem?_eq_some_iff.1 FT.out).1
      have FT := Lib.hid (row_below FT.out bb)
      have KK := Lib.hid (KK.out.below bb)
      have NO := Lib.hid (row_below NO.out bb)
      have hv6 := (show _ ∧ _ from ⟨hHeld.1.trans (bb.mono hHeld.1.size), row_below hHeld.2 bb⟩)
      clear nf bb hqv6 ev6 hgv6 hHeld
      go_frame
      refine hK.out _ _ hv6 (fun hHeld => ?_)
      clear hK K hv6
      refine held_take (i := 8) (v := (.agg ([nV 1, (.slice (some ⟨gv6, 0, none⟩) 1 1), (.slice (some ⟨gv5, 0, none⟩) 1 1), nV 0]).toArray)) rfl (by kernel_rfl) (by kernel_rfl) (by kernel_rfl) (fun _ _ _ h => h) (yieldsIf_build (by rfl) 63 _ rfl [(0, .int .u32 1), (1, (.slice (some ⟨gv6, 0, none⟩) 1 1)), (2, (.slice (some ⟨gv5, 0, none⟩) 1 1))] (by kernel_rfl) _ (by kernel_rfl)) hHeld ?_
      go_frame
      refine wpAnyH_ready (rs := [9]) (by kernel_rfl) (by simp) (held_cons rfl (fun K hK => ?_) AllReadyH.nil)
      rw [if_pos (by rfl)]
      refine wp_store_whole 63 (.tmp 8) (.tmp 23) rfl (w.heap.size + 1) [nV 0, .slice none 0 0, .slice none 0 0, nV 0] [nV 1, (.slice (some ⟨gv6, 0, none⟩) 1 1), (.slice (some ⟨gv5, 0, none⟩) 1 1), nV 0] 63 rfl rfl (rfl) FT.out (by kernel_rfl) (by kernel_rfl) ?_
      intro v7 q1 q2
      have FT := Lib.hid q1
      have KK := Lib.hid (KeyAt.off KK.out (fun sp n cap hv _ hq => by cases hv; have e : w.heap.size + 1 = sp.block := Option.some.inj hq; have := GK.out sp rfl; omega) q2)
      have NO := Lib.hid (row_far NO.out q2 (by intro h; have := Option.some.inj h; have := GNO.out; omega))
      have NI := Lib.hid (row_far NI.out q2 (by intro h; have := Option.some.inj h; have := GNI.out; omega))
      have hv7 := (show _ ∧ _ from ⟨hHeld.1.grown q2 hHeld.1.size (fun k hk => by cases hk; omega), row_far hHeld.2 q2 (by intro h; have := Option.some.inj h; omega)⟩)
      clear q1 q2 hHeld
      go_frame
      refine hK.out _ _ hv7 (fun hHeld => ?_)
      clear hK K hv7
      refine wpAnyH_done (by kernel_rfl) ?_ _
      have BZ := Lib.hid hHeld.1
      clear hHeld
      go_wp2_with fail
      refine bodyPost_ret (results_cell_row rfl _ _ (w.heap.size + 1) 63 ([nV 1, (.slice (some ⟨gv6, 0, none⟩) 1 1), (.slice (some ⟨gv5, 0, none⟩) 1 1), nV 0]).toArray (0, 0) _ rfl FT.out Tryz.underlying63 rfl (by kernel_rfl)) rfl ?_
      exact ⟨_, rfl, fun W hW => ⟨⟨by show 1 ≤ _; omega, by show 0 ≤ _; omega⟩, _, _, rfl, insAt_one (row_kps NI.out hW (by have := GNI.out; show _ ≤ _; omega)) (x := firstX h32 ex) (firstX_ok ex H32.out) (KK.out.kps (fun sp n cap hv _ => by cases hv; have := GK.out sp rfl; show w.heap.size ≤ sp.block; omega) hW), outsAt_one (row_kps NO.out hW (by have := GNO.out; show _ ≤ _; omega)) (y := ⟨val, lock⟩) ⟨LK.out, VB.out⟩⟩, BZ.out⟩
  · skip
    rw [if_pos (by rfl)]
    refine wp_slice_one 61 116 (.tmp 21) rfl (outL ⟨val, lock⟩) rfl Tryz.underlying61 i3 _ hi3 hv0 (by rw [hv1, LO.out]) (by rw [LO.out]; omega) (by rw [LO.out]; omega) ?_
    have nf := heap_alloc_new wd (.cells (outL ⟨val, lock⟩).toArray 116 (0, 0))
    have bb := (Below.refl wd.heap.size wd).alloc (Nat.le_refl _) (.cells (outL ⟨val, lock⟩).toArray 116 (0, 0))
    obtain ⟨gv8, hgv8⟩ : ∃ g, g = wd.heap.size := ⟨_, rfl⟩
    generalize hqv8 : World.alloc _ _ = v8
    have ev8 : wd.alloc (.cells (outL ⟨val, lock⟩).toArray 116 (0, 0)) = v8 := hqv8
    rw [ev8] at nf bb
    rw [← hgv8] at nf ⊢
    have NO := Lib.hid nf
    have GNO : Hid (w.heap.size + 1 < gv8) := by show _ < _; rw [hgv8]; exact (Array.getElem?_eq_some_iff.1 FT.out).1
    have FT := Lib.hid (row_below FT.out bb)
    have KK := Lib.hid (KK.out.below bb)
    have hv8 := (show _ ∧ _ from ⟨hHeld.1.trans (bb.mono hHeld.1.size), row_below hHeld.2 bb⟩)
    clear nf bb hqv8 ev8 hgv8 hHeld
    go_frame
    refine hK.out _ _ hv8 (fun hHeld => ?_)
    clear hK K hv8
    refine wpAnyH_ready (rs := [0]) (by kernel_rfl) (by simp) (held_cons rfl (fun K hK => ?_) AllReadyH.nil)
    go_simp
    refine (rnull_any _).mono ?_
    rintro e v9 ⟨rfl, bb⟩
    have FT := Lib.hid (row_below FT.out bb)
    have KK := Lib.hid (KK.out.below bb)
    have NO := Lib.hid (row_below NO.out bb)
    have hv9 := (show _ ∧ _ from ⟨hHeld.1.trans (bb.mono hHeld.1.size), row_below hHeld.2 bb⟩)
    clear bb hHeld
    go_wp2_with fail
    refine hK.out _ _ hv9 (fun hHeld => ?_)
    clear hK K hv9
    refine held_take (i := 2) (v := (.agg (inL (firstX h32 ex) (.slice sk nk ck)).toArray)) rfl (by kernel_rfl) (by kernel_rfl) (by kernel_rfl) (fun _ _ _ h => h) (yieldsIf_build (by rfl) 114 _ rfl [(0, .agg nullL.toArray), (1, .slice sk nk ck), (2, .int .u32 4294967295)] (by kernel_rfl) _ (by kernel_rfl)) hHeld ?_
    go_frame
    refine wpAnyH_ready (rs := [3]) (by kernel_rfl) (by simp) (held_cons rfl (fun K hK => ?_) AllReadyH.nil)
    rw [if_pos (by rfl)]
    refine wp_slice_one 60 114 (.tmp 17) rfl (inL (firstX h32 ex) (.slice sk nk ck)) rfl Tryz.underlying60 i2 _ hi2 hx0 (by rw [hx1]; rfl) (by show 0 < 35; omega) (by show 35 ≤ _; omega) ?_
    have nf := heap_alloc_new v9 (.cells (inL (firstX h32 ex) (.slice sk nk ck)).toArray 114 (0, 0))
    have bb := (Below.refl v9.heap.size v9).alloc (Nat.le_refl _) (.cells (inL (firstX h32 ex) (.slice sk nk ck)).toArray 114 (0, 0))
    obtain ⟨gv10, hgv10⟩ : ∃ g, g = v9.heap.size := ⟨_, rfl⟩
    generalize hqv10 : World.alloc _ _ = v10
    have ev10 : v9.alloc (.cells (inL (firstX h32 ex) (.slice sk nk ck)).toArray 114 (0, 0)) = v10 := hqv10
    rw [ev10] at nf bb
    rw [← hgv10] at nf ⊢
    have NI := Lib.hid nf
    have GNI : Hid (w.heap.size + 1 < gv10) := by show _ < _; rw [hgv10]; exact (Array.getElem?_eq_some_iff.1 FT.out).1
    have FT := Lib.hid (row_below FT.out bb)
    have KK := Lib.hid (KK.out.below bb)
    have NO := Lib.hid (row_below NO.out bb)
    have hv10 := (show _ ∧ _ from ⟨hHeld.1.trans (bb.mono hHeld.1.size), row_below hHeld.2 bb⟩)
    clear nf bb hqv10 ev10 hgv10 hHeld
    go_frame
    refine hK.out _ _ hv10 (fun hHeld => ?_)
    clear hK K hv10
    refine held_take (i := 8) (v := (.agg ([nV 1, (.slice (some ⟨gv10, 0, none⟩) 1 1), (.slice (some ⟨gv8, 0, none⟩) 1 1), nV 0]).toArray)) rfl (by kernel_rfl) (by kernel_rfl) (by kernel_rfl) (fun _ _ _ h => h) (yieldsIf_build (by rfl) 63 _ rfl [(0, .int .u32 1), (1, (.slice (some ⟨gv10, 0, none⟩) 1 1)), (2, (.slice (some ⟨gv8, 0, none⟩) 1 1))] (by kernel_rfl) _ (by kernel_rfl)) hHeld ?_
    go_frame
    refine wpAnyH_ready (rs := [9]) (by kernel_rfl) (by simp) (held_cons rfl (fun K hK => ?_) AllReadyH.nil)
    rw [if_pos (by rfl)]
    refine wp_store_whole 63 (.tmp 8) (.tmp 23) rfl (w.heap.size + 1) [nV 0, .slice none 0 0, .slice none 0 0, nV 0] [nV 1, (.slice (some ⟨gv10, 0, none⟩) 1 1), (.slice (some ⟨gv8, 0, none⟩) 1 1), nV 0] 63 rfl rfl (rfl) FT.out (by kernel_rfl) (by kernel_rfl) ?_
    intro v11 q1 q2
    have FT := Lib.hid q1
    have KK := Lib.hid (KeyAt.off KK.out (fun sp n cap hv _ hq => by cases hv; have e : w.heap.size + 1 = sp.block := Option.some.inj hq; have := GK.out sp rfl; omega) q2)
    have NO := Lib.hid (row_far NO.out q2 (by intro h; have := Option.some.inj h; have := GNO.out; omega))
    have NI := Lib.hid (row_far NI.out q2 (by intro h; have := Option.some.inj h; have := GNI.out; omega))
    have hv11 := (show _ ∧ _ from ⟨hHeld.1.grown q2 hHeld.1.size (fun k hk => by cases hk; omega), row_far hHeld.2 q2 (by intro h; have := Option.some.inj h; omega)⟩)
    clear q1 q2 hHeld
    go_frame
    refine hK.out _ _ hv11 (fun hHeld => ?_)
    clear hK K hv11
    refine wpAnyH_done (by kernel_rfl) ?_ _
    have BZ := Lib.hid hHeld.1
    clear hHeld
    go_wp2_with fail
    refine bodyPost_ret (results_cell_row rfl _ _ (w.heap.size + 1) 63 ([nV 1, (.slice (some ⟨gv10, 0, none⟩) 1 1), (.slice (some ⟨gv8, 0, none⟩) 1 1), nV 0]).toArray (0, 0) _ rfl FT.out Tryz.underlying63 rfl (by kernel_rfl)) rfl ?_
    exact ⟨_, rfl, fun W hW => ⟨⟨by show 1 ≤ _; omega, by show 0 ≤ _; omega⟩, _, _, rfl, insAt_one (row_kps NI.out hW (by have := GNI.out; show _ ≤ _; omega)) (x := firstX h32 ex) (firstX_ok ex H32.out) (KK.out.kps (fun sp n cap hv _ => by cases hv; have := GK.out sp rfl; show w.heap.size ≤ sp.block; omega) hW), outsAt_one (row_kps NO.out hW (by have := GNO.out; show _ ≤ _; omega)) (y := ⟨val, lock⟩) ⟨LK.out, VB.out⟩⟩, BZ.out⟩
set_option maxHeartbeats 2000000 in
set_option maxRecDepth 100000 in
theorem rooted_any (x : TBlk) (tv : Value) (w : World) (hh : HdOk x.head) (ht : TxsAt w tv x.txs) (hs : BlkSmall x) :
    Calls Tryz.prog 29 #[.agg (blL x.head tv).toArray] w fun e w' => e = .returned (.agg (blL { x.head with root := blRoot x } tv).toArray) ∧ Below w.heap.size w w' := by
  have HH := Lib.hid hh
  have HT := Lib.hid ht
  have TS := Lib.hid hs
  have T1 : Hid (tv.oneCell' = true) := ht.one
  obtain ⟨cs, hcs⟩ : ∃ cs, cs = blL x.head tv := ⟨_, rfl⟩
  have K1 : Hid (∀ W g, W.heap[g]? = some (.cells cs.toArray 31 (0, 0)) → BlBox W g x.head tv) := fun W g h => ⟨by rw [← hcs]; exact h⟩
  obtain ⟨R, hR⟩ : ∃ R, R = blRoot x := ⟨_, rfl⟩
  have LR : Hid (R.length = 32) := by show _ = _; rw [hR]; exact blRoot_length x
  have HR : Hid (rootL prH zM (idsL x.txs) = R) := hR.symm
  have HOK : Hid (HdOk { x.head with root := R }) := ⟨hh.1, hh.2.1, LR.out, hh.2.2.2.1, hh.2.2.2.2.1, hh.2.2.2.2.2⟩
  rw [← hR, ← hcs]
  obtain ⟨ds, hds⟩ : ∃ ds, ds = blL { x.head with root := R } tv := ⟨_, rfl⟩
  rw [← hds]
  have ON2 : Hid (ds.toArray.all (·.oneCell') = true) := by show _ = _; rw [hds]; exact blL_one T1.out
  have LS2 : Hid (ds.toArray.size = 69) := by show _ = _; rw [hds]; exact blL_size HOK.out _
  have K2 : Hid (∀ W g, BlBox W g { x.head with root := R } tv → W.heap[g]? = some (.cells ds.toArray 31 (0, 0))) := fun W g h => by rw [hds]; exact h.row
  clear hcs hds hR hh ht hs
  go_enter Tryz.func29, Tryz.ntmps29
  go_upto_region 1 with fail
  have f1 := row_below (heap_alloc_new w (.cells cs.toArray 31 (0, 0))) ((Below.refl _ _).alloc (Nat.le_refl _) (.cells Tryz.zeroCells31 31))
  have f2 := heap_alloc_new (w.alloc (.cells cs.toArray 31 (0, 0))) (.cells Tryz.zeroCells31 31)
  have b1 := ((Below.refl w.heap.size w).alloc (Nat.le_refl _) (.cells cs.toArray 31 (0, 0))).alloc (by simp) (.cells Tryz.zeroCells31 31)
  rw [World.size_alloc] at f2
  generalize hw1 : World.alloc _ _ = w1
  have e1 : (w.alloc (.cells cs.toArray 31 (0, 0))).alloc (.cells Tryz.zeroCells31 31) = w1 := hw1
  rw [e1] at f1 f2 b1
  have k1 := K1.out _ _ f1
  have c1 := k1.txs HH.out
  have K := Lib.hid k1
  have F2 := Lib.hid f2
  have B1 := Lib.hid b1
  clear f1 f2 b1 hw1 e1 k1 K1
  go_wp2_with fail
  refine (rids_any x.txs tv w1 (HT.out.below B1.out) TS.out.1 TS.out.2).mono ?_
  rintro e w2 ⟨v2, rfl, ho, hb2⟩
  have HA := Lib.hid ho.at
  have B2 := Lib.hid (B1.out.trans (hb2.mono B1.out.size))
  have K2' := Lib.hid (K.out.below hb2)
  have F3 := Lib.hid (row_below F2.out hb2)
  clear ho hb2 c1
  go_wp2_with fail
  refine (rootR_v (idsL x.txs) R v2 w2 HA.out (by rw [idsL_length]; have := TS.out.2; omega) HR.out).mono ?_
  rintro e w3 ⟨rfl, hb3⟩
  have B3 := Lib.hid (B2.out.trans (hb3.mono B2.out.size))
  have K3 := Lib.hid (K2'.out.below hb3)
  have F4 := Lib.hid (row_below F3.out hb3)
  clear hb3
  go_upto_region 2 with ((with_reducible show wpList _ _ _ _ _ _); refine st_blroot rfl (.tmp 8) (.tmp 6) rfl rfl R LR.out rfl HH.out K3.out ?_; intro w4 k4 g4; have K4 := Lib.hid (K2.out _ _ k4); have G4 := Lib.hid g4; clear k4 g4; go_frame)
  have F5 := Lib.hid (row_far F4.out G4.out (by intro h; have := Option.some.inj h; omega))
  have B4 := Lib.hid (B3.out.grown G4.out B3.out.size (fun k hk => by cases hk; exact Nat.le_refl _))
  go_wp2_with ((with_reducible show wpList _ _ _ _ _ _); first | (refine wpList_load_row rfl 31 (.tmp 1) rfl w.heap.size rfl 31 ds.toArray (0, 0) _ K4.out Tryz.underlying31 rfl (by rw [LS2.out]; kernel_rfl) ?_; go_frame) | (refine wpList_store_row rfl 31 (.tmp 2) (.tmp 9) rfl (w.heap.size + 1) ds.toArray rfl rfl 31 _ F5.out (by rw [LS2.out]; kernel_rfl) (by rw [LS2.out]; kernel_rfl) ON2.out ?_; go_frame))
  exact bodyPost_ret (results_cell_row rfl _ _ (w.heap.size + 1) 31 ds.toArray (0, 0) _ rfl (setRow_heap _ _ _ _ _ _ F5.out) Tryz.underlying31 rfl (by rw [LS2.out]; kernel_rfl)) rfl ⟨rfl, below_setRow B4.out (Nat.le_succ _) _⟩
set_option maxHeartbeats 2000000 in
set_option maxRecDepth 100000 in
theorem rstart_any (w : World) : Calls Tryz.prog 7 #[] w fun e w' => ∃ v, e = .returned v ∧ BlkAt w' v startX ∧ Below w.heap.size w w' := by
  obtain ⟨i0, hi, hz0, hz1, hz2⟩ := info_parts info_txc
  have LC : Hid (∀ W, Calls Tryz.prog 31 #[.slice none 0 0] W fun e w' => e = .returned (.agg ((sha []).map bV).toArray) ∧ Below W.heap.size W w') := fun W => ref_any [] none 0 0 W (nil_src _) (by omega)
  have FC : Hid (∀ W, Calls Tryz.prog 30 #[.int .i64 0, .int .u64 0, .agg ((sha []).map bV).toArray, .slice none 0 0] W fun e w' => ∃ v', e = .returned v' ∧ TxNew W w' v' startT ∧ Below W.heap.size W w') := fun W =>
    rfirst_any 0 0 0 (sha []) [] (.slice none 0 0) W (by decide) (by omega) (by omega) (sha_length _) (nil_src _) (by simp)
  obtain ⟨lk, hlk⟩ : ∃ lk, lk = ((sha []).map bV).toArray := ⟨_, rfl⟩
  rw [← hlk] at LC FC
  clear hlk
  go_enter Tryz.func7, Tryz.ntmps7
  go_upto_region 1 with fail
  have f0 := heap_alloc_new w (.cells Tryz.zeroCells31 31 (0, 0))
  have b0 := (Below.refl w.heap.size w).alloc (Nat.le_refl _) (.cells Tryz.zeroCells31 31 (0, 0))
  generalize hw1 : World.alloc _ _ = w1
  have e1 : w.alloc (.cells Tryz.zeroCells31 31 (0, 0)) = w1 := hw1
  rw [e1] at f0 b0
  have F0 := Lib.hid f0
  have B0 := Lib.hid b0
  clear f0 b0 hw1 e1
  go_wp2_with ((with_reducible show wpList _ _ _ _ _ _); refine wpList_buildTo rfl 28 _ rfl _ rfl (hdL startH).toArray (by kernel_rfl) ?_; go_frame)
  refine (LC.out w1).mono ?_
  rintro e w2 ⟨rfl, hb2⟩
  have B2 := Lib.hid (B0.out.trans (hb2.mono B0.out.size))
  have F2 := Lib.hid (row_below F0.out hb2)
  clear hb2
  go_wp2_with fail
  refine (FC.out w2).mono ?_
  rintro e w3 ⟨v3, rfl, ht3, hb3⟩
  have B3 := Lib.hid (B2.out.trans (hb3.mono B2.out.size))
  have F3 := Lib.hid (row_below F2.out hb3)
  have N3 := Lib.hid hb3
  have TA := Lib.hid ht3
  obtain ⟨_, iv, ov, rfl, _, _⟩ := ht3.at
  have LW2 : Hid (w.heap.size < w2.heap.size) := (Array.getElem?_eq_some_iff.1 F2.out).1
  clear hb3
  have CT : Hid ((txL startT iv ov).length = 4) := rfl
  obtain ⟨ct, hct⟩ : ∃ ct, ct = txL startT iv ov := ⟨_, rfl⟩
  rw [← hct] at CT TA ⊢
  have HCT := Lib.hid hct
  clear hct
  go_wp2_with ((with_reducible show wpList _ _ _ _ _ _); first | (refine wpList_slice_one rfl 29 63 (.tmp 3) rfl ct rfl Tryz.underlying29 i0 _ hi hz0 (by rw [hz1, CT.out]) (by rw [CT.out]; omega) (by rw [CT.out]; omega) ?_; have nf := heap_alloc_new w3 (.cells (ct).toArray 63 (0, 0)); have bb := (Below.refl w3.heap.size w3).alloc (Nat.le_refl _) (.cells (ct).toArray 63 (0, 0)); obtain ⟨gt, hgt⟩ : ∃ g, g = w3.heap.size := ⟨_, rfl⟩; generalize hq : World.alloc _ _ = w4; have e2 : w3.alloc (.cells (ct).toArray 63 (0, 0)) = w4 := hq; rw [e2] at nf bb; rw [← hgt] at nf ⊢; have NT := Lib.hid nf; have B4 := Lib.hid (B3.out.trans (bb.mono B3.out.size)); have F4 := Lib.hid (row_below F3.out bb); have GTL := Lib.hid ((show w2.heap.size ≤ gt by rw [hgt]; exact N3.out.size)); have TA4 := Lib.hid (TA.out.on (Kps.new bb)); clear nf bb hq e2 hgt; go_frame) | (refine wpList_buildTo rfl 31 _ rfl _ rfl (blL startH (.slice (some ⟨gt, 0, none⟩) 1 1)).toArray (by kernel_rfl) ?_; go_frame))
  have TX4 : Hid (Sty (fun k => w2.heap.size ≤ k) w4 (fun W => TxsAt W (.slice (some ⟨gt, 0, none⟩) 1 1) [startT])) := fun W hW => by
    have h1 := row_kps NT.out hW GTL.out
    have h2 := TA4.out W hW
    rw [HCT.out] at h1 h2
    exact txsAt_one h1 h2
  have RC := rooted_any startX0 (.slice (some ⟨gt, 0, none⟩) 1 1) w4 startH_ok TX4.out.now startX0_small
  obtain ⟨hd, hhd⟩ : ∃ hd, hd = ({ startX0.head with root := blRoot startX0 } : THd) := ⟨_, rfl⟩
  rw [← hhd] at RC
  have HOK : Hid (HdOk hd) := by show HdOk _; rw [hhd]; exact startX_ok
  have ON2 : Hid ((blL hd (.slice (some ⟨gt, 0, none⟩) 1 1)).toArray.all (·.oneCell') = true) := blL_one rfl
  have LS2 : Hid ((blL hd (.slice (some ⟨gt, 0, none⟩) 1 1)).toArray.size = 69) := blL_size HOK.out _
  obtain ⟨ds, hds⟩ : ∃ ds, ds = blL hd (.slice (some ⟨gt, 0, none⟩) 1 1) := ⟨_, rfl⟩
  rw [← hds] at ON2 LS2 RC
  obtain ⟨cs, hcs⟩ : ∃ cs, cs = blL startX0.head (.slice (some ⟨gt, 0, none⟩) 1 1) := ⟨_, rfl⟩
  rw [← hcs] at RC
  rw [show blL startH (.slice (some ⟨gt, 0, none⟩) 1 1) = cs from hcs.symm]
  have HDS := Lib.hid hds
  have HHD := Lib.hid hhd
  clear hds hhd hcs
  refine RC.mono ?_
  rintro e w5 ⟨rfl, hb5⟩
  have N5 := Lib.hid hb5
  have B5 := Lib.hid (B4.out.trans (hb5.mono B4.out.size))
  have FR5 := Lib.hid (row_below F4.out hb5)
  clear hb5 RC
  go_wp2_with ((with_reducible show wpList _ _ _ _ _ _); (refine wpList_store_row rfl 31 (.tmp 0) (.tmp 6) rfl w.heap.size ds.toArray rfl rfl 31 _ FR5.out (by rw [LS2.out]; kernel_rfl) (by rw [LS2.out]; kernel_rfl) ON2.out ?_; go_frame))
  refine bodyPost_ret (results_cell_row rfl _ _ w.heap.size 31 ds.toArray (0, 0) _ rfl (setRow_heap _ _ _ _ _ _ FR5.out) Tryz.underlying31 rfl (by rw [LS2.out]; kernel_rfl)) rfl ?_
  have G8 : w5.grownBy (w5.setRow w.heap.size ds.toArray) (some w.heap.size) := setRow_grown _
  refine ⟨_, rfl, ⟨startX_ok, .slice (some ⟨gt, 0, none⟩) 1 1, ?_, ?_⟩, B5.out.grown G8 B5.out.size (fun k hk => by cases hk; exact Nat.le_refl _)⟩
  · rw [HDS.out, HHD.out]
    rfl
  · exact TX4.out _ ((Kps.new N5.out).trans (Kps.grown G8 (fun k _ h e => by have := Option.some.inj e; have := LW2.out; omega)))
end Go.Proofs.YtdhcjaflbfpalaaGreatDoor.Sha

/-
  The laws' own chapter's example, and headers that grow out of numbers. Nothing that was there turns. Conditions: the numbers lie where the slice says, at most 60; the table of the rounds' words is there.
-/
namespace Go.Proofs.YtdhcjaflbfpalaaGreatDoor.Sha
open Go Go.RowKit
theorem field_head (h : THd) (hh : HdOk h) (tv : Value) (w : World) : (Instr.field 31 (.agg (blL h tv).toArray) 0).run Tryz.prog w = .ok (.agg (hdL h).toArray) w := by
  have hagg : (isAgg 28).run Tryz.prog w = .ok true w := by
    unfold isAgg
    rw [Sem.run_bind, run_underlying Tryz.underlying28 w]
    rfl
  have hsz : (Go.sizeOf 28).run Tryz.prog w = .ok 68 w := by kernel_rfl
  have e : (blL h tv).toArray.extract 0 68 = (hdL h).toArray := by
    rw [List.extract_toArray, List.extract_eq_take_drop, List.drop_zero, Nat.sub_zero, blL, List.take_append_of_le_length (by rw [hdL_length hh]; exact Nat.le_refl _), List.take_of_length_le (by rw [hdL_length hh]; exact Nat.le_refl _)]
  have hp : (part 28 (blL h tv).toArray 0).run Tryz.prog w = .ok (.agg (hdL h).toArray) w := by
    simp only [part, Sem.run_bind, hagg, Result.andThen_ok, if_true, hsz, Sem.run_pure, Nat.zero_add, e]
  have hf : ∀ x : Array Value, (Instr.field 31 (.agg x) 0).run Tryz.prog w = (part 28 x 0).run Tryz.prog w := fun x => by kernel_rfl
  rw [hf]
  exact hp
theorem ofT_start (h : THd) : ofT [stT h] (hdId h) = (h, 0, h.work, true) := by
  have e : findT [stT h] (hdId h) = ((0 : Nat) : Int) := findT_some (L := [stT h]) (x := stT h) rfl rfl (fun j y hj => by omega)
  unfold ofT
  rw [e, if_neg (by decide)]
  rfl
theorem numb_b (x n : Int) (hn : 1 ≤ n) (hn2 : n ≤ 4611686018427387904) (hx : -9223372036854775808 ≤ x ∧ x ≤ 9223372036854775807) (w : World) :
    Calls Tryz.prog 11 #[.int .i64 x, .int .i64 n] w fun e w' => e = .returned (.int .i64 (numb x n)) ∧ Below w.heap.size w w' :=
  (numb_any x n hn hn2 hx w).mono fun _ _ h => ⟨h.1, by rw [← h.2]; exact Below.refl _ _⟩
/-- Numbers where a slice says. -/
def SrcZ (w : World) (sp : Option Addr) (m : Nat) (z : Nat → Int) : Prop := 0 < m → ∃ cb coff, sp = some ⟨cb, coff, none⟩ ∧ ∀ i, i < m → w.cell? ⟨cb, coff + i, none⟩ = some (.int .i64 (z i)) ∧ -9223372036854775808 ≤ z i ∧ z i ≤ 9223372036854775807
end Go.Proofs.YtdhcjaflbfpalaaGreatDoor.Sha

/-
  The state of the laws over marks: a tree, marks over it, a row of ids that are in it. No conditions.
-/
namespace Go.Proofs.YtdhcjaflbfpalaaGreatDoor.Sha
open Go Go.RowKit
structure BoG (w0 w : World) (tb tm b bm mm : Nat) (ov lv : Value) (M : List CNd) (B Mt : IdSet) (d : Array Rk) (I : List OH) : Prop where
  ct : CtAt w w0.heap.size tb tm M
  tr : TrL (ndM M)
  hung : Hung (ndM M)
  mks : MkAt w w0.heap.size b tb bm mm lv B Mt d
  mi : MkI (ndM M) B Mt d
  ne : tm ≠ bm ∧ tm ≠ mm
  ids : RwOwn 32 26 w0.heap.size w ov (I.map fun q : OH => q.1.map bV)
  has : ∀ q ∈ I, 0 ≤ findT (ndM M) q.1
  old : Below w0.heap.size w0 w
section
variable {w0 w w' : World} {tb tm b bm mm : Nat} {ov ov' lv : Value} {M : List CNd} {B Mt : IdSet} {d : Array Rk} {I : List OH}
theorem BoG.below (h : BoG w0 w tb tm b bm mm ov lv M B Mt d I) (hb : Below w.heap.size w w') : BoG w0 w' tb tm b bm mm ov lv M B Mt d I :=
  ⟨h.ct.below hb, h.tr, h.hung, h.mks.below hb, h.mi, h.ne, h.ids.keep hb, h.has, h.old.trans (hb.mono h.old.size)⟩
theorem BoG.base (h : BoG w0 w tb tm b bm mm ov lv M B Mt d I) : w0.heap.size ≤ w.heap.size := h.old.size
/-- The row of ids has grown. -/
theorem BoG.turn (h : BoG w0 w tb tm b bm mm ov lv M B Mt d I) (hg : w.grownBy w' ov.ownBlock) {I' : List OH} (ho : RwOwn 32 26 w0.heap.size w' ov' (I'.map fun q : OH => q.1.map bV)) (hI : ∀ q ∈ I', 0 ≤ findT (ndM M) q.1) : BoG w0 w' tb tm b bm mm ov' lv M B Mt d I' := by
  have hk : Kps (fun j => some j ≠ ov.ownBlock) w w' := Kps.grown hg fun _ _ hf => hf
  have un : ∀ {bs n k : Nat} {T : TypeId} {v : Value} {xs : List Value}, w.ownsRow bs T k v n xs → 26 ≠ T → ∀ g, v.ownBlock = some g → some g ≠ ov.ownBlock := fun hr hT g hg' e => by
    rcases own_unlike h.ids.1 hr hT with h0 | h1
    · rw [h0] at e; cases e
    · exact h1 (e.symm.trans hg'.symm)
  refine ⟨h.ct.kps hk (fun e => own_ne' h.ids.1 h.ct.box (by decide) e.symm) (fun e => own_nemap h.ct.mp h.ids.1 e.symm) (fun c hc => ?_), h.tr, h.hung, h.mks.kps hk (fun e => own_ne' h.ids.1 h.mks.box (by decide) e.symm) (fun e => own_nemap h.mks.bad h.ids.1 e.symm) (fun e => own_nemap h.mks.met h.ids.1 e.symm) (un h.mks.row.1 (by decide)), h.mi, h.ne, ho, hI, own_grown h.old (Nat.le_refl _) h.old.size h.ids.1 hg⟩
  obtain ⟨i, hi⟩ := h.ct.at_ hc
  exact ⟨fun e => own_ne' h.ids.1 (h.ct.node i c hi) (by decide) e.symm, un (h.ct.kid i c hi).1 (by decide)⟩
/-- Add was told a header whose parent is there. -/
theorem BoG.add {E : Nat → Addr} {e : Ending} {hd : THd} (h : BoG w0 w tb tm b bm mm ov lv M B Mt d I) (hh : HdOk hd) (hp : 0 ≤ findT (ndM M) hd.prev) (hl : M.length < 4096) (hA : CtaP E w0.heap.size tb tm M hd w e w') :
    ∃ M', BoG w0 w' tb tm b bm mm ov lv M' B Mt d I ∧ 0 ≤ findT (ndM M') (hdId hd) ∧ M'.length ≤ M.length + 1 ∧ (∀ (g : Nat) (cs : Array Value) (T : TypeId) (fr : Nat × Nat), w.heap[g]? = some (.cells cs T fr) → T ≠ 70 → 67 ≠ T → w'.heap[g]? = some (.cells cs T fr))
      ∧ (addE (ndM M) hd = 0 → ndM M' = ndM M ++ [nxT (ndM M) hd]) := by
  obtain ⟨_, h1, h2⟩ := hA
  by_cases ha : addE (ndM M) hd = 0
  · obtain ⟨M', hm, hc, hk⟩ := h2 ha
    have tr' : TrL (ndM M') := by rw [hm]; exact h.tr.push hh ha
    have hu' : Hung (ndM M') := by rw [hm]; exact h.hung.push h.tr ha
    have hid : hdId hd = (nxT (ndM M) hd).id := rfl
    have hno : ∀ y ∈ ndM M, y.id ≠ (nxT (ndM M) hd).id := fun y hy e => by
      unfold addE at ha
      split at ha
      · cases ha
      · rename_i hf
        rcases findT_cases (ndM M) (hdId hd) with ⟨_, hn⟩ | ⟨k, x, ek, _⟩
        · exact hn y hy e
        · omega
    refine ⟨M', ⟨hc, tr', hu', h.mks.grow h.ct h.ne.1 h.ne.2 hk, ?_, h.ne, ⟨own_kpsB h.ids.1 hk (h.ct.ownF h.ids.1 (by decide) (by decide)), h.ids.2⟩, fun q hq => ?_, ?_⟩, ?_, ?_, fun g cs T fr hg t1 t2 => row_kps hg hk (h.ct.rowF hg t1 t2), fun _ => hm⟩
    · rw [hm] at tr' hu' ⊢
      exact h.mi.add h.tr h.hung tr' hu'
    · rw [hm, findT_push _ (h.has q hq)]
      exact h.has q hq
    · exact h.old.trans (Kps.down hk h.base fun j hj => h.ct.oldF hj)
    · rw [hm, hid, findT_last _ hno]; omega
    · have := congrArg List.length hm
      rw [List.length_append, ndM_length, ndM_length] at this
      simp only [List.length_singleton] at this
      omega
  · have hb := h1 ha
    refine ⟨M, h.below hb, ?_, Nat.le_succ _, fun g cs T fr hg _ _ => row_below hg hb, fun h0 => absurd h0 ha⟩
    unfold addE at ha
    split at ha
    · assumption
    · split at ha
      · omega
      · split at ha
        · rename_i hc
          rw [ndM_length] at hc
          omega
        · exact absurd rfl ha
/-- What Bad leaves of it. -/
theorem BoG.bad {e : Ending} {id : List UInt8} (h : BoG w0 w tb tm b bm mm ov lv M B Mt d I) (hB : BaP w0.heap.size b tb bm mm lv B Mt d (ndM M) id w e w') :
    ∃ B', BoG w0 w' tb tm b bm mm ov lv M B' Mt d I ∧ BtR w0.heap.size bm mm w w' ∧ ((ofT (ndM M) id).2.1 = 0 ∧ e = .returned (.bool false) ∧ B' = B ∨ (ofT (ndM M) id).2.1 ≠ 0 ∧ e = .returned (.bool true) ∧ (isM (ndM M) B id = true ∧ B' = B ∨ isM (ndM M) B id = false ∧ ∃ l, l.Perm (undT (ndM M) id) ∧ BadP B l id B')) := by
  obtain ⟨B', hm, hr, hc⟩ := hB
  refine ⟨B', ⟨h.mks.tree h.ct h.ne.1 h.ne.2 hr, h.tr, h.hung, hm, ?_, h.ne, ⟨own_kpsB h.ids.1 hr (h.mks.ownF h.ids.1 (by decide) (by decide)), h.ids.2⟩, h.has, h.old.trans (hr.old h.base)⟩, hr, hc⟩
  rcases hc with ⟨_, _, rfl⟩ | ⟨h0, _, h2⟩
  · exact h.mi
  · have hf : 0 ≤ findT (ndM M) id := by
      by_cases hf : 0 ≤ findT (ndM M) id
      · exact hf
      · rw [ofT_none (by omega)] at h0
        exact absurd rfl h0
    obtain ⟨k0, x0, _, hx0, rfl⟩ := found hf
    have k0p : 0 < k0 := by
      rcases h.tr.parent hx0 with ⟨_, _, e⟩ | ⟨p, _, hp, _⟩
      · rw [ofT_at h.tr hx0] at h0
        exact absurd e h0
      · omega
    refine h.mi.bad h.tr h.hung (k0 := k0) ?_
    rcases h2 with ⟨h3, rfl⟩ | ⟨_, l, hl, hb⟩
    · rw [isM_at h.tr h.hung hx0] at h3
      exact MarkP.same h.tr h3
    · exact fun k hk => isU_bad h.tr hx0 k0p hl hb hk
/-- What Best leaves of it. -/
theorem BoG.best {e : Ending} (h : BoG w0 w tb tm b bm mm ov lv M B Mt d I) (hB : BsP w0.heap.size b tb bm mm B (ndM M) w e w') :
    ∃ (top : OH) (lv' : Value) (Mt' : IdSet) (d' : Array Rk), e = .returned (.agg (top.1.map bV).toArray) ∧ BestP (ndM M) B top ∧ BoG w0 w' tb tm b bm mm ov lv' M B Mt' d' I ∧ BtR w0.heap.size bm mm w w' := by
  obtain ⟨top, lv', Mt', d', rfl, hb, hm, hi, hr⟩ := hB
  exact ⟨top, lv', Mt', d', rfl, hb, ⟨h.mks.tree h.ct h.ne.1 h.ne.2 hr, h.tr, h.hung, hm, hi, h.ne, ⟨own_kpsB h.ids.1 hr (h.mks.ownF h.ids.1 (by decide) (by decide)), h.ids.2⟩, h.has, h.old.trans (hr.old h.base)⟩, hr⟩
theorem BoG.at_ (h : BoG w0 w tb tm b bm mm ov lv M B Mt d I) (h0 : 0 < I.length) : ∃ g o cap, ov = .slice (some ⟨g, o, none⟩) I.length cap ∧ ∀ (i : Nat) (q : OH), I[i]? = some q → w.rangeAt g (o + i * 32) (q.1.map bV) := by
  obtain ⟨sp, cap, rfl⟩ := (h.ids.at (by decide)).shape
  obtain ⟨g, o, rfl, hg⟩ := (h.ids.at (by decide)).get (by rw [List.length_map]; exact h0)
  exact ⟨g, o, cap, by rw [List.length_map], fun i q hq => hg i _ (by rw [List.getElem?_map, hq]; rfl)⟩
end
theorem best_start {h : THd} {top : OH} (hb : BestP [stT h] [] top) : top.1 = hdId h := by
  obtain ⟨k, x, _, hx, e⟩ := found hb.has
  cases k with
  | zero => rw [← e]; cases hx; rfl
  | succ k => cases hx
end Go.Proofs.YtdhcjaflbfpalaaGreatDoor.Sha

/-
  The laws' own chapter's example: of the start alone it is best, and can't be marked. Nothing that was there turns. Condition: the table of the rounds' words is there.
-/
namespace Go.Proofs.YtdhcjaflbfpalaaGreatDoor.Sha
open Go Go.RowKit
set_option maxHeartbeats 2000000 in
set_option maxRecDepth 100000 in
theorem bofirst_any (w : World) (hk : KTab w) : Calls Tryz.prog 6 #[] w fun e w' => e = .returned (.bool true) ∧ Below w.heap.size w w' := by
  have HK := Lib.hid hk
  clear hk
  go_enter Tryz.func6, Tryz.ntmps6
  go_wp2_with fail
  refine (rstart_any w).mono ?_
  rintro e w1 ⟨v, rfl, hb, bb⟩
  obtain ⟨hh, tv, rfl, _⟩ := hb
  have hf := field_head startX.head hh tv
  have NW := Lib.hid (ctnew_any w1 startX.head hh (HK.out.below bb))
  have TS : Hid (TrL (ndM [⟨stT startX.head, 0, .slice none 0 0⟩])) := stT_tr hh
  have OS := Lib.hid (ofT_start startX.head)
  have LI : Hid ((hdId startX.head).length = 32) := hdId_length _
  obtain ⟨cb, hcb⟩ : ∃ cb, cb = blL startX.head tv := ⟨_, rfl⟩
  rw [← hcb] at hf ⊢
  obtain ⟨cs, hcs⟩ : ∃ cs, cs = hdL startX.head := ⟨_, rfl⟩
  rw [← hcs] at hf NW
  have B1 := Lib.hid bb
  clear bb hh hcb hcs
  go_wp2_with fail
  clear hf
  refine NW.out.mono ?_
  rintro e w2 ⟨tb, tm, g, rfl, hct, bb⟩
  have HT := Lib.hid hct
  have TR : Hid (TrL (ndM [⟨stT startX.head, g, .slice none 0 0⟩])) := TS.out
  have HU : Hid (Hung (ndM [⟨stT startX.head, g, .slice none 0 0⟩])) := fun i x hx hp => by
    cases i with
    | zero => cases hx; exact absurd hp (show ¬ (0 : Int) ≤ -1 by decide)
    | succ i => cases hx
  have B2 := Lib.hid (B1.out.trans (bb.mono B1.out.size))
  have TM := Lib.hid (show tm < w2.heap.size from hct.mp.lt)
  clear hct bb NW TS
  go_wp2_with fail
  refine (bknew_any w2 tb).mono ?_
  rintro e w3 ⟨b, bm, mm, rfl, hm, bb⟩
  have HM := Lib.hid hm
  have HT3 := Lib.hid (HT.out.below bb)
  have B3 := Lib.hid (B2.out.trans (bb.mono B2.out.size))
  have NE : Hid (tm ≠ bm ∧ tm ≠ mm) := ⟨by have := TM.out; have := hm.lo.2.1; omega, by have := TM.out; have := hm.lo.2.2; omega⟩
  have S3 := Lib.hid bb.size
  clear hm bb HT TM
  have BE : Hid (Calls Tryz.prog 18 #[(.pointer (some ⟨b, 0, none⟩))] w3 (BsP w2.heap.size b tb bm mm [] (ndM [⟨stT startX.head, g, .slice none 0 0⟩]) w3)) := bkbest_any w3 w2.heap.size b tb bm mm _ tm _ [] [] #[] _ HM.out (MkI.none _) HT3.out TR.out HU.out NE.out S3.out
  go_wp2_with fail
  refine BE.out.mono ?_
  rintro e w4 ⟨top, lv', Mt', d', rfl, hbp, hma, hmi, hrr⟩
  have TP : Hid (top.1 = hdId startX.head) := best_start hbp
  have HT4 := Lib.hid (HM.out.tree HT3.out NE.out.1 NE.out.2 hrr)
  have HM4 := Lib.hid hma
  have B4 := Lib.hid (B3.out.trans (Below.mono (hrr.old S3.out) B2.out.size))
  have S4 := Lib.hid (Nat.le_trans S3.out hrr.size)
  clear hbp hma hmi hrr HM HT3 B3 BE S3
  have ST : Hid (∀ W, Below w4.heap.size w4 W → Calls Tryz.prog 27 #[(.pointer (some ⟨tb, 0, none⟩))] W fun e w' => e = .returned (.agg ((hdId startX.head).map bV).toArray) ∧ Below W.heap.size W w') := fun W hW => ctstart_any W _ tb tm _ (HT4.out.below hW) TR.out
  have SM : Hid (∀ W, Calls Tryz.prog 17 #[.agg (top.1.map bV).toArray, .agg ((hdId startX.head).map bV).toArray] W (SmPost true W)) := fun W => by
    have h := same_any top.1 (hdId startX.head) top.2 LI.out W
    rw [decide_eq_true TP.out] at h
    exact h
  have BD : Hid (∀ W, Below w4.heap.size w4 W → Calls Tryz.prog 15 #[(.pointer (some ⟨b, 0, none⟩)), .agg ((hdId startX.head).map bV).toArray] W fun e w' => e = .returned (.bool false) ∧ Below w2.heap.size W w') := fun W hW => by
    have h := bkbad_any W w2.heap.size b tb bm mm _ tm lv' [] Mt' d' _ (hdId startX.head) (HM4.out.below hW) (HT4.out.below hW) TR.out LI.out
    refine h.mono ?_
    rintro e w' ⟨B', _, hr, hc⟩
    have e0 : (ofT (ndM [⟨stT startX.head, g, .slice none 0 0⟩]) (hdId startX.head)).2.1 = 0 := by
      have e : ofT (ndM [⟨stT startX.head, g, .slice none 0 0⟩]) (hdId startX.head) = (startX.head, 0, startX.head.work, true) := OS.out
      rw [e]
    have old := hr.old (Nat.le_trans S4.out hW.size)
    rcases hc with ⟨_, rfl, _⟩ | ⟨h1, _⟩
    · exact ⟨rfl, old⟩
    · exact absurd e0 h1
  obtain ⟨ci, hci⟩ : ∃ ci, ci = (hdId startX.head).map bV := ⟨_, rfl⟩
  rw [← hci] at ST SM BD
  obtain ⟨ct, hct⟩ : ∃ ct, ct = top.1.map bV := ⟨_, rfl⟩
  rw [← hct] at SM ⊢
  clear hci hct
  go_wp2_with fail
  refine (ST.out w4 (Below.refl _ _)).mono ?_
  rintro e w5 ⟨rfl, bb⟩
  have C5 := Lib.hid bb
  clear bb
  go_wp2_with fail
  refine (SM.out w5).mono ?_
  rintro e w6 ⟨rfl, bb⟩
  have C6 := Lib.hid (C5.out.trans (bb.mono C5.out.size))
  clear bb C5 SM
  go_wp2_with fail
  refine (ST.out w6 C6.out).mono ?_
  rintro e w7 ⟨rfl, bb⟩
  have C7 := Lib.hid (C6.out.trans (bb.mono C6.out.size))
  clear bb C6 ST
  go_wp2_with fail
  refine (BD.out w7 C7.out).mono ?_
  rintro e w8 ⟨rfl, bb⟩
  have B8 := Lib.hid ((B4.out.trans (C7.out.mono (Nat.le_trans B2.out.size S4.out))).trans (bb.mono B2.out.size))
  clear bb
  go_wp2_with fail
  go_ret
  exact ⟨rfl, B8.out⟩
end Go.Proofs.YtdhcjaflbfpalaaGreatDoor.Sha
