/-
  Texts of this proof joined into one file: BlRefStart, TwGrow. What each holds, and under which conditions, its own first sentence tells.
-/
import Derived.Test.YtnhmjlljnckieaaDoorMg14
import Derived.Test.YtnhmjlljnckieaaDoorMg15
import Derived.Test.YtnhmjlljnckieaaDoorMg04
import Derived.Test.YtnhmjlljnckieaaDoorMg09
import Derived.Test.YtnhmjlljnckieaaDoorMg01
import Derived.Test.YtnhmjlljnckieaaDoorMg10
/-
  The statements' own first transaction, their own block that each chain begins with. New memory; nothing that was there turns. Conditions: the bytes that are added lie where the slice says.
-/
namespace Go.Proofs.YtnhmjlljnckieaaDoor.Sha
open Go Go.RowKit
theorem rootR_v (l : List (List UInt8)) (R : List UInt8) (v : Value) (w : World) (h : HsAt w v l) (hn : l.length ≤ 1048576) (hR : rootL prH zM l = R) :
    Calls Tryd.prog 35 #[v] w fun e w' => e = .returned (.agg (R.map bV).toArray) ∧ Below w.heap.size w w' := by
  obtain ⟨sp, cap, rfl⟩ := h.shape
  rw [← hR]
  exact rootR_any l sp _ cap w h hn
theorem own_keyAt {w : World} {base : Nat} {v : Value} {key : List UInt8} (h : w.ownsRow base 5 1 v key.length (key.map bV)) : KeyAt w v key ∧ ∀ sp n cap, v = .slice (some sp) n cap → base ≤ sp.block := by
  refine ⟨⟨src_own h, ?_⟩, fun sp n cap hv => ?_⟩
  · rcases h.2 with ⟨rfl, hn⟩ | ⟨g, cap, cur, rfl, _⟩
    · exact ⟨_, _, by rw [hn]⟩
    · exact ⟨_, _, rfl⟩
  · have := h.lt sp.block (by rw [hv]; rfl)
    exact this.1
set_option maxHeartbeats 4000000 in
set_option maxRecDepth 100000 in
theorem rfirst_any (h : Int) (h32 val : Nat) (lock ex : List UInt8) (ve : Value) (w : World) (hh : IntKind.u32.wrap h = (h32 : Int)) (h3 : h32 ≤ 4294967295) (hv : val ≤ 18446744073709551615) (hl : lock.length = 32) (hs : SrcB w ve ex) (he : ex.length ≤ 70368744170000) :
    Calls Tryd.prog 29 #[.int .i64 h, .int .u64 (val : Int), .agg (lock.map bV).toArray, ve] w fun e w' => ∃ v', e = .returned v' ∧ TxNew w w' v' (firstT h32 val lock ex) ∧ Below w.heap.size w w' := by
  obtain ⟨i0, hi, hz0, hz1, hz2⟩ := info_parts info_u8
  obtain ⟨i2, hi2, hx0, hx1, hx2⟩ := info_parts info_in
  obtain ⟨i3, hi3, hv0, hv1, hv2⟩ := info_parts info_out
  obtain ⟨se, ne, ce, rfl, q1, q2⟩ := hs.shape'
  clear q1 q2
  have H32 := Lib.hid h3
  have LK := Lib.hid hl
  have LL : Hid ((lock.map bV).toArray.size = 32) := by show _ = _; simp [hl]
  have LO : Hid ((outL ⟨val, lock⟩).length = 33) := outL_length _ hl
  have VB := Lib.hid hv
  have SE := Lib.hid hs
  have LE := Lib.hid he
  clear hl hs he hv h3
  go_enter Tryd.func29, Tryd.ntmps29
  go_upto_region 1 with fail
  have f1 := row_below (heap_alloc_new w (.cells (lock.map bV).toArray 30 (0, 0))) ((Below.refl _ _).alloc (Nat.le_refl _) (.cells [nV 0, .slice none 0 0, .slice none 0 0, nV 0].toArray 81))
  have f2 := heap_alloc_new (w.alloc (.cells (lock.map bV).toArray 30 (0, 0))) (.cells [nV 0, .slice none 0 0, .slice none 0 0, nV 0].toArray 81)
  have b1 := ((Below.refl w.heap.size w).alloc (Nat.le_refl _) (.cells (lock.map bV).toArray 30 (0, 0))).alloc (by simp) (.cells [nV 0, .slice none 0 0, .slice none 0 0, nV 0].toArray 81)
  rw [World.size_alloc] at f2
  generalize hw1 : World.alloc _ _ = w1
  have e1 : (w.alloc (.cells (lock.map bV).toArray 30 (0, 0))).alloc (.cells [nV 0, .slice none 0 0, .slice none 0 0, nV 0].toArray 81) = w1 := hw1
  rw [e1] at f1 f2 b1
  have F1 := Lib.hid f1
  have FT := Lib.hid f2
  have B1 := Lib.hid b1
  have LT1 : Hid (w.heap.size + 1 < w1.heap.size) := (Array.getElem?_eq_some_iff.1 f2).1
  clear f1 f2 b1 hw1 e1
  go_wp2_with fail
  refine (rfour_g h32 w1.heap.size [] _ w1 H32.out (Nat.le_refl _) (by simp) (World.ownsRow_nil _ _ _ _)).mono ?_
  rintro e w4 ⟨v4, rfl, hg4⟩
  have G4 := Lib.hid hg4
  have F1 := Lib.hid (row_far F1.out hg4.2.1 (by intro h; cases h))
  have FT := Lib.hid (row_far FT.out hg4.2.1 (by intro h; cases h))
  clear hg4
  go_upto_region 2 with ((with_reducible show wpList _ _ _ _ _ _); refine wpList_append_g _ rfl (.tmp 12) (.tmp 13) 70 rfl w1.heap.size 5 i0 Tryd.underlying70 hi hz0 hz1 hz2 _ _ _ (by rfl) G4.out.1 (.slice se ne ce) ex (by rfl) ((SE.out.below B1.out).below (G4.out.below (fun k hk => by cases hk) (Nat.le_refl _))) (by have := LE.out; simp [leB_length]; omega) G4.out.2.2.2 ?_; intro v5 w5 a1 a2 a3; have A1 := Lib.hid a1; have A2 := Lib.hid a2; have A3 := Lib.hid (G4.out.app a1 a2 a3); clear a1 a2 a3; go_frame)
  have LO4 : Hid (∀ k, v4.ownBlock = some k → w1.heap.size ≤ k) := fun k hk => (G4.out.1.lt k hk).1
  have F1 := Lib.hid (row_far F1.out A2.out (by intro h; have := LO4.out _ h; have := LT1.out; omega))
  have FT := Lib.hid (row_far FT.out A2.out (by intro h; have := LO4.out _ h; have := LT1.out; omega))
  have B5 : Hid (Below w.heap.size w w5) := B1.out.trans ((A3.out.below (fun k hk => by cases hk) B1.out.size))
  obtain ⟨kk, hk5⟩ := own_keyAt (key := leB h32 4 ++ ex) (show w5.ownsRow w1.heap.size 5 1 v5 (leB h32 4 ++ ex).length ((leB h32 4 ++ ex).map bV) from A3.out.1)
  obtain ⟨sk, nk, ck, rfl, q1, q2⟩ := kk.1.shape'
  have KK := Lib.hid kk
  have GK : Hid (∀ sp, sk = some sp → w.heap.size + 1 < sp.block) := fun sp e => by subst e; have := hk5 _ _ _ rfl; have := LT1.out; omega
  clear kk hk5 q1 q2 A1 A2 A3 G4 LO4
  refine wp_region_held_drew (S := (fun w' => Below w.heap.size w w' ∧ w'.heap[w.heap.size]? = some (.cells (lock.map bV).toArray 30 (0, 0)))) (by kernel_rfl) (⟨Below.drew B5.out, F1.out⟩) (fun hHeld => ?_)
  have FT : Hid (w5.drew.heap[w.heap.size + 1]? = some (.cells [nV 0, .slice none 0 0, .slice none 0 0, nV 0].toArray 81 (0, 0))) := FT.out
  have KK : Hid (KeyAt w5.drew (.slice sk nk ck) (leB h32 4 ++ ex)) := KK.out
  generalize hwd : w5.drew = wd at FT KK hHeld ⊢
  clear hwd
  refine held_take (i := 1) (v := (.slice sk nk ck)) rfl (by kernel_rfl) (by kernel_rfl) (by kernel_rfl) (fun _ _ _ h => h) (Or.inl ⟨by rfl, fun w' _ => by kernel_rfl⟩) hHeld ?_
  go_frame
  refine held_take (i := 4) (v := (.int .u64 (val : Int))) rfl (by kernel_rfl) (by kernel_rfl) (by kernel_rfl) (fun _ _ _ h => h) (Or.inl ⟨by rfl, fun w' _ => by kernel_rfl⟩) hHeld ?_
  go_frame
  refine held_take (i := 5) (v := (.agg (lock.map bV).toArray)) rfl (by kernel_rfl) (by kernel_rfl) (by kernel_rfl) (fun _ _ _ h => h) (yieldsIf_load_row (by rfl) 30 (.tmp 6) rfl w.heap.size rfl 30 (lock.map bV).toArray (0, 0) _ (fun w' hw' => hw'.2) Tryd.underlying30 rfl (by rw [LL.out]; kernel_rfl)) hHeld ?_
  go_frame
  refine held_take (i := 6) (v := (.agg (outL ⟨val, lock⟩).toArray)) rfl (by kernel_rfl) (by kernel_rfl) (by kernel_rfl) (fun _ _ _ h => h) (yieldsIf_build (by rfl) 93 _ rfl [(0, .int .u64 (val : Int)), (1, .agg (lock.map bV).toArray)] (by kernel_rfl) _ (built_outl val lock LK.out)) hHeld ?_
  go_frame
  refine wpAnyH_ready (rs := [0, 7]) (by kernel_rfl) (by simp) (held_cons rfl (fun K hK => ?_) (held_cons rfl (fun K hK => ?_) AllReadyH.nil))
  · skip
    go_simp
    refine (rnull_any _).mono ?_
    rintro e v1 ⟨rfl, bb⟩
    have FT := Lib.hid (row_below FT.out bb)
    have KK := Lib.hid (KK.out.below bb)
    have hv1 := (show _ ∧ _ from ⟨hHeld.1.trans (bb.mono hHeld.1.size), row_below hHeld.2 bb⟩)
    clear bb hHeld
    go_wp2_with fail
    refine hK.out _ _ hv1 (fun hHeld => ?_)
    clear hK K hv1
    refine held_take (i := 2) (v := (.agg (inL (firstX h32 ex) (.slice sk nk ck)).toArray)) rfl (by kernel_rfl) (by kernel_rfl) (by kernel_rfl) (fun _ _ _ h => h) (yieldsIf_build (by rfl) 91 _ rfl [(0, .agg nullL.toArray), (1, .slice sk nk ck), (2, .int .u32 4294967295)] (by kernel_rfl) _ (by kernel_rfl)) hHeld ?_
    go_frame
    refine wpAnyH_ready (rs := [3, 7]) (by kernel_rfl) (by simp) (held_cons rfl (fun K hK => ?_) (held_cons rfl (fun K hK => ?_) AllReadyH.nil))
    · skip
      rw [if_pos (by rfl)]
      refine wp_slice_one 78 91 (.tmp 17) rfl (inL (firstX h32 ex) (.slice sk nk ck)) rfl Tryd.underlying78 i2 _ hi2 hx0 (by rw [hx1]; rfl) (by show 0 < 35; omega) (by show 35 ≤ _; omega) ?_
      have nf := heap_alloc_new v1 (.cells (inL (firstX h32 ex) (.slice sk nk ck)).toArray 91 (0, 0))
      have bb := (Below.refl v1.heap.size v1).alloc (Nat.le_refl _) (.cells (inL (firstX h32 ex) (.slice sk nk ck)).toArray 91 (0, 0))
      obtain ⟨gv2, hgv2⟩ : ∃ g, g = v1.heap.size := ⟨_, rfl⟩
      generalize hqv2 : World.alloc _ _ = v2
      have ev2 : v1.alloc (.cells (inL (firstX h32 ex) (.slice sk nk ck)).toArray 91 (0, 0)) = v2 := hqv2
      rw [ev2] at nf bb
      rw [← hgv2] at nf ⊢
      have NI := Lib.hid nf
      have GNI : Hid (w.heap.size + 1 < gv2) := by show _ < _; rw [hgv2]; exact (Array.getElem?_eq_some_iff.1 FT.out).1
      have FT := Lib.hid (row_below FT.out bb)
      have KK := Lib.hid (KK.out.below bb)
      have hv2 := (show _ ∧ _ from ⟨hHeld.1.trans (bb.mono hHeld.1.size), row_below hHeld.2 bb⟩)
      clear nf bb hqv2 ev2 hgv2 hHeld
      go_frame
      refine hK.out _ _ hv2 (fun hHeld => ?_)
      clear hK K hv2
      refine wpAnyH_ready (rs := [7]) (by kernel_rfl) (by simp) (held_cons rfl (fun K hK => ?_) AllReadyH.nil)
      rw [if_pos (by rfl)]
      refine wp_slice_one 79 93 (.tmp 21) rfl (outL ⟨val, lock⟩) rfl Tryd.underlying79 i3 _ hi3 hv0 (by rw [hv1, LO.out]) (by rw [LO.out]; omega) (by rw [LO.out]; omega) ?_
      have nf := heap_alloc_new v2 (.cells (outL ⟨val, lock⟩).toArray 93 (0, 0))
      have bb := (Below.refl v2.heap.size v2).alloc (Nat.le_refl _) (.cells (outL ⟨val, lock⟩).toArray 93 (0, 0))
      obtain ⟨gv3, hgv3⟩ : ∃ g, g = v2.heap.size := ⟨_, rfl⟩
      generalize hqv3 : World.alloc _ _ = v3
      have ev3 : v2.alloc (.cells (outL ⟨val, lock⟩).toArray 93 (0, 0)) = v3 := hqv3
      rw [ev3] at nf bb
      rw [← hgv3] at nf ⊢
      have NO := Lib.hid nf
      have GNO : Hid (w.heap.size + 1 < gv3) := by show _ < _; rw [hgv3]; exact (Array.getElem?_eq_some_iff.1 FT.out).1
      have FT := Lib.hid (row_below FT.out bb)
      have KK := Lib.hid (KK.out.below bb)
      have NI := Lib.hid (row_below NI.out bb)
      have hv3 := (show _ ∧ _ from ⟨hHeld.1.trans (bb.mono hHeld.1.size), row_below hHeld.2 bb⟩)
      clear nf bb hqv3 ev3 hgv3 hHeld
      go_frame
      refine hK.out _ _ hv3 (fun hHeld => ?_)
      clear hK K hv3
      refine held_take (i := 8) (v := (.agg ([nV 1, (.slice (some ⟨gv2, 0, none⟩) 1 1), (.slice (some ⟨gv3, 0, none⟩) 1 1), nV 0]).toArray)) rfl (by kernel_rfl) (by kernel_rfl) (by kernel_rfl) (fun _ _ _ h => h) (yieldsIf_build (by rfl) 81 _ rfl [(0, .int .u32 1), (1, (.slice (some ⟨gv2, 0, none⟩) 1 1)), (2, (.slice (some ⟨gv3, 0, none⟩) 1 1))] (by kernel_rfl) _ (by kernel_rfl)) hHeld ?_
      go_frame
      refine wpAnyH_ready (rs := [9]) (by kernel_rfl) (by simp) (held_cons rfl (fun K hK => ?_) AllReadyH.nil)
      rw [if_pos (by rfl)]
      refine wp_store_whole 81 (.tmp 8) (.tmp 23) rfl (w.heap.size + 1) [nV 0, .slice none 0 0, .slice none 0 0, nV 0] [nV 1, (.slice (some ⟨gv2, 0, none⟩) 1 1), (.slice (some ⟨gv3, 0, none⟩) 1 1), nV 0] 81 rfl rfl (rfl) FT.out (by kernel_rfl) (by kernel_rfl) ?_
      intro v4 q1 q2
      have FT := Lib.hid q1
      have KK := Lib.hid (KeyAt.off KK.out (fun sp n cap hv _ hq => by cases hv; have e : w.heap.size + 1 = sp.block := Option.some.inj hq; have := GK.out sp rfl; omega) q2)
      have NI := Lib.hid (row_far NI.out q2 (by intro h; have := Option.some.inj h; have := GNI.out; omega))
      have NO := Lib.hid (row_far NO.out q2 (by intro h; have := Option.some.inj h; have := GNO.out; omega))
      have hv4 := (show _ ∧ _ from ⟨hHeld.1.grown q2 hHeld.1.size (fun k hk => by cases hk; omega), row_far hHeld.2 q2 (by intro h; have := Option.some.inj h; omega)⟩)
      clear q1 q2 hHeld
      go_frame
      refine hK.out _ _ hv4 (fun hHeld => ?_)
      clear hK K hv4
      refine wpAnyH_done (by kernel_rfl) ?_ _
      have BZ := Lib.hid hHeld.1
      clear hHeld
      go_wp2_with fail
      refine bodyPost_ret (results_cell_row rfl _ _ (w.heap.size + 1) 81 ([nV 1, (.slice (some ⟨gv2, 0, none⟩) 1 1), (.slice (some ⟨gv3, 0, none⟩) 1 1), nV 0]).toArray (0, 0) _ rfl FT.out Tryd.underlying81 rfl (by kernel_rfl)) rfl ?_
      exact ⟨_, rfl, fun W hW => ⟨⟨by show 1 ≤ _; omega, by show 0 ≤ _; omega⟩, _, _, rfl, insAt_one (row_kps NI.out hW (by have := GNI.out; show _ ≤ _; omega)) (x := firstX h32 ex) (firstX_ok ex H32.out) (KK.out.kps (fun sp n cap hv _ => by cases hv; have := GK.out sp rfl; show w.heap.size ≤ sp.block; omega) hW), outsAt_one (row_kps NO.out hW (by have := GNO.out; show _ ≤ _; omega)) (y := ⟨val, lock⟩) ⟨LK.out, VB.out⟩⟩, BZ.out⟩
    · skip
      rw [if_pos (by rfl)]
      refine wp_slice_one 79 93 (.tmp 21) rfl (outL ⟨val, lock⟩) rfl Tryd.underlying79 i3 _ hi3 hv0 (by rw [hv1, LO.out]) (by rw [LO.out]; omega) (by rw [LO.out]; omega) ?_
      have nf := heap_alloc_new v1 (.cells (outL ⟨val, lock⟩).toArray 93 (0, 0))
      have bb := (Below.refl v1.heap.size v1).alloc (Nat.le_refl _) (.cells (outL ⟨val, lock⟩).toArray 93 (0, 0))
      obtain ⟨gv5, hgv5⟩ : ∃ g, g = v1.heap.size := ⟨_, rfl⟩
      generalize hqv5 : World.alloc _ _ = v5
      have ev5 : v1.alloc (.cells (outL ⟨val, lock⟩).toArray 93 (0, 0)) = v5 := hqv5
      rw [ev5] at nf bb
      rw [← hgv5] at nf ⊢
      have NO := Lib.hid nf
      have GNO : Hid (w.heap.size + 1 < gv5) := by show _ < _; rw [hgv5]; exact (Array.getElem?_eq_some_iff.1 FT.out).1
      have FT := Lib.hid (row_below FT.out bb)
      have KK := Lib.hid (KK.out.below bb)
      have hv5 := (show _ ∧ _ from ⟨hHeld.1.trans (bb.mono hHeld.1.size), row_below hHeld.2 bb⟩)
      clear nf bb hqv5 ev5 hgv5 hHeld
      go_frame
      refine hK.out _ _ hv5 (fun hHeld => ?_)
      clear hK K hv5
      refine wpAnyH_ready (rs := [3]) (by kernel_rfl) (by simp) (held_cons rfl (fun K hK => ?_) AllReadyH.nil)
      rw [if_pos (by rfl)]
      refine wp_slice_one 78 91 (.tmp 17) rfl (inL (firstX h32 ex) (.slice sk nk ck)) rfl Tryd.underlying78 i2 _ hi2 hx0 (by rw [hx1]; rfl) (by show 0 < 35; omega) (by show 35 ≤ _; omega) ?_
      have nf := heap_alloc_new v5 (.cells (inL (firstX h32 ex) (.slice sk nk ck)).toArray 91 (0, 0))
      have bb := (Below.refl v5.heap.size v5).alloc (Nat.le_refl _) (.cells (inL (firstX h32 ex) (.slice sk nk ck)).toArray 91 (0, 0))
      obtain ⟨gv6, hgv6⟩ : ∃ g, g = v5.heap.size := ⟨_, rfl⟩
      generalize hqv6 : World.alloc _ _ = v6
      have ev6 : v5.alloc (.cells (inL (firstX h32 ex) (.slice sk nk ck)).toArray 91 (0, 0)) = v6 := hqv6
      rw [ev6] at nf bb
      rw [← hgv6] at nf ⊢
      have NI := Lib.hid nf
      have GNI : Hid (w.heap.size + 1 < gv6) := by show _ < _; rw [hgv6]; exact (Array.getElem?_eq_some_iff.1 FT.out).1
      have FT := Lib.hid (row_below FT.out bb)
      have KK := Lib.hid (KK.out.below bb)
      have NO := Lib.hid (row_below NO.out bb)
      have hv6 := (show _ ∧ _ from ⟨hHeld.1.trans (bb.mono hHeld.1.size), row_below hHeld.2 bb⟩)
      clear nf bb hqv6 ev6 hgv6 hHeld
      go_frame
      refine hK.out _ _ hv6 (fun hHeld => ?_)
      clear hK K hv6
      refine held_take (i := 8) (v := (.agg ([nV 1, (.slice (some ⟨gv6, 0, none⟩) 1 1), (.slice (some ⟨gv5, 0, none⟩) 1 1), nV 0]).toArray)) rfl (by kernel_rfl) (by kernel_rfl) (by kernel_rfl) (fun _ _ _ h => h) (yieldsIf_build (by rfl) 81 _ rfl [(0, .int .u32 1), (1, (.slice (some ⟨gv6, 0, none⟩) 1 1)), (2, (.slice (some ⟨gv5, 0, none⟩) 1 1))] (by kernel_rfl) _ (by kernel_rfl)) hHeld ?_
      go_frame
      refine wpAnyH_ready (rs := [9]) (by kernel_rfl) (by simp) (held_cons rfl (fun K hK => ?_) AllReadyH.nil)
      rw [if_pos (by rfl)]
      refine wp_store_whole 81 (.tmp 8) (.tmp 23) rfl (w.heap.size + 1) [nV 0, .slice none 0 0, .slice none 0 0, nV 0] [nV 1, (.slice (some ⟨gv6, 0, none⟩) 1 1), (.slice (some ⟨gv5, 0, none⟩) 1 1), nV 0] 81 rfl rfl (rfl) FT.out (by kernel_rfl) (by kernel_rfl) ?_
      intro v7 q1 q2
      have FT := Lib.hid q1
      have KK := Lib.hid (KeyAt.off KK.out (fun sp n cap hv _ hq => by cases hv; have e : w.heap.size + 1 = sp.block := Option.some.inj hq; have := GK.out sp rfl; omega) q2)
      have NO := Lib.hid (row_far NO.out q2 (by intro h; have := Option.some.inj h; have := GNO.out; omega))
      have NI := Lib.hid (row_far NI.out q2 (by intro h; have := Option.some.inj h; have := GNI.out; omega))
      have hv7 := (show _ ∧ _ from ⟨hHeld.1.grown q2 hHeld.1.size (fun k hk => by cases hk; omega), row_far hHeld.2 q2 (by intro h; have := Option.some.inj h; omega)⟩)
      clear q1 q2 hHeld
      go_frame
      refine hK.out _ _ hv7 (fun hHeld => ?_)
      clear hK K hv7
      refine wpAnyH_done (by kernel_rfl) ?_ _
      have BZ := Lib.hid hHeld.1
      clear hHeld
      go_wp2_with fail
      refine bodyPost_ret (results_cell_row rfl _ _ (w.heap.size + 1) 81 ([nV 1, (.slice (some ⟨gv6, 0, none⟩) 1 1), (.slice (some ⟨gv5, 0, none⟩) 1 1), nV 0]).toArray (0, 0) _ rfl FT.out Tryd.underlying81 rfl (by kernel_rfl)) rfl ?_
      exact ⟨_, rfl, fun W hW => ⟨⟨by show 1 ≤ _; omega, by show 0 ≤ _; omega⟩, _, _, rfl, insAt_one (row_kps NI.out hW (by have := GNI.out; show _ ≤ _; omega)) (x := firstX h32 ex) (firstX_ok ex H32.out) (KK.out.kps (fun sp n cap hv _ => by cases hv; have := GK.out sp rfl; show w.heap.size ≤ sp.block; omega) hW), outsAt_one (row_kps NO.out hW (by have := GNO.out; show _ ≤ _; omega)) (y := ⟨val, lock⟩) ⟨LK.out, VB.out⟩⟩, BZ.out⟩
  · skip
    rw [if_pos (by rfl)]
    refine wp_slice_one 79 93 (.tmp 21) rfl (outL ⟨val, lock⟩) rfl Tryd.underlying79 i3 _ hi3 hv0 (by rw [hv1, LO.out]) (by rw [LO.out]; omega) (by rw [LO.out]; omega) ?_
    have nf := heap_alloc_new wd (.cells (outL ⟨val, lock⟩).toArray 93 (0, 0))
    have bb := (Below.refl wd.heap.size wd).alloc (Nat.le_refl _) (.cells (outL ⟨val, lock⟩).toArray 93 (0, 0))
    obtain ⟨gv8, hgv8⟩ : ∃ g, g = wd.heap.size := ⟨_, rfl⟩
    generalize hqv8 : World.alloc _ _ = v8
    have ev8 : wd.alloc (.cells (outL ⟨val, lock⟩).toArray 93 (0, 0)) = v8 := hqv8
    rw [ev8] at nf bb
    rw [← hgv8] at nf ⊢
    have NO := Lib.hid nf
    have GNO : Hid (w.heap.size + 1 < gv8) := by show _ < _; rw [hgv8]; exact (Array.getElem?_eq_some_iff.1 FT.out).1
    have FT := Lib.hid (row_below FT.out bb)
    have KK := Lib.hid (KK.out.below bb)
    have hv8 := (show _ ∧ _ from ⟨hHeld.1.trans (bb.mono hHeld.1.size), row_below hHeld.2 bb⟩)
    clear nf bb hqv8 ev8 hgv8 hHeld
    go_frame
    refine hK.out _ _ hv8 (fun hHeld => ?_)
    clear hK K hv8
    refine wpAnyH_ready (rs := [0]) (by kernel_rfl) (by simp) (held_cons rfl (fun K hK => ?_) AllReadyH.nil)
    go_simp
    refine (rnull_any _).mono ?_
    rintro e v9 ⟨rfl, bb⟩
    have FT := Lib.hid (row_below FT.out bb)
    have KK := Lib.hid (KK.out.below bb)
    have NO := Lib.hid (row_below NO.out bb)
    have hv9 := (show _ ∧ _ from ⟨hHeld.1.trans (bb.mono hHeld.1.size), row_below hHeld.2 bb⟩)
    clear bb hHeld
    go_wp2_with fail
    refine hK.out _ _ hv9 (fun hHeld => ?_)
    clear hK K hv9
    refine held_take (i := 2) (v := (.agg (inL (firstX h32 ex) (.slice sk nk ck)).toArray)) rfl (by kernel_rfl) (by kernel_rfl) (by kernel_rfl) (fun _ _ _ h => h) (yieldsIf_build (by rfl) 91 _ rfl [(0, .agg nullL.toArray), (1, .slice sk nk ck), (2, .int .u32 4294967295)] (by kernel_rfl) _ (by kernel_rfl)) hHeld ?_
    go_frame
    refine wpAnyH_ready (rs := [3]) (by kernel_rfl) (by simp) (held_cons rfl (fun K hK => ?_) AllReadyH.nil)
    rw [if_pos (by rfl)]
    refine wp_slice_one 78 91 (.tmp 17) rfl (inL (firstX h32 ex) (.slice sk nk ck)) rfl Tryd.underlying78 i2 _ hi2 hx0 (by rw [hx1]; rfl) (by show 0 < 35; omega) (by show 35 ≤ _; omega) ?_
    have nf := heap_alloc_new v9 (.cells (inL (firstX h32 ex) (.slice sk nk ck)).toArray 91 (0, 0))
    have bb := (Below.refl v9.heap.size v9).alloc (Nat.le_refl _) (.cells (inL (firstX h32 ex) (.slice sk nk ck)).toArray 91 (0, 0))
    obtain ⟨gv10, hgv10⟩ : ∃ g, g = v9.heap.size := ⟨_, rfl⟩
    generalize hqv10 : World.alloc _ _ = v10
    have ev10 : v9.alloc (.cells (inL (firstX h32 ex) (.slice sk nk ck)).toArray 91 (0, 0)) = v10 := hqv10
    rw [ev10] at nf bb
    rw [← hgv10] at nf ⊢
    have NI := Lib.hid nf
    have GNI : Hid (w.heap.size + 1 < gv10) := by show _ < _; rw [hgv10]; exact (Array.getElem?_eq_some_iff.1 FT.out).1
    have FT := Lib.hid (row_below FT.out bb)
    have KK := Lib.hid (KK.out.below bb)
    have NO := Lib.hid (row_below NO.out bb)
    have hv10 := (show _ ∧ _ from ⟨hHeld.1.trans (bb.mono hHeld.1.size), row_below hHeld.2 bb⟩)
    clear nf bb hqv10 ev10 hgv10 hHeld
    go_frame
    refine hK.out _ _ hv10 (fun hHeld => ?_)
    clear hK K hv10
    refine held_take (i := 8) (v := (.agg ([nV 1, (.slice (some ⟨gv10, 0, none⟩) 1 1), (.slice (some ⟨gv8, 0, none⟩) 1 1), nV 0]).toArray)) rfl (by kernel_rfl) (by kernel_rfl) (by kernel_rfl) (fun _ _ _ h => h) (yieldsIf_build (by rfl) 81 _ rfl [(0, .int .u32 1), (1, (.slice (some ⟨gv10, 0, none⟩) 1 1)), (2, (.slice (some ⟨gv8, 0, none⟩) 1 1))] (by kernel_rfl) _ (by kernel_rfl)) hHeld ?_
    go_frame
    refine wpAnyH_ready (rs := [9]) (by kernel_rfl) (by simp) (held_cons rfl (fun K hK => ?_) AllReadyH.nil)
    rw [if_pos (by rfl)]
    refine wp_store_whole 81 (.tmp 8) (.tmp 23) rfl (w.heap.size + 1) [nV 0, .slice none 0 0, .slice none 0 0, nV 0] [nV 1, (.slice (some ⟨gv10, 0, none⟩) 1 1), (.slice (some ⟨gv8, 0, none⟩) 1 1), nV 0] 81 rfl rfl (rfl) FT.out (by kernel_rfl) (by kernel_rfl) ?_
    intro v11 q1 q2
    have FT := Lib.hid q1
    have KK := Lib.hid (KeyAt.off KK.out (fun sp n cap hv _ hq => by cases hv; have e : w.heap.size + 1 = sp.block := Option.some.inj hq; have := GK.out sp rfl; omega) q2)
    have NO := Lib.hid (row_far NO.out q2 (by intro h; have := Option.some.inj h; have := GNO.out; omega))
    have NI := Lib.hid (row_far NI.out q2 (by intro h; have := Option.some.inj h; have := GNI.out; omega))
    have hv11 := (show _ ∧ _ from ⟨hHeld.1.grown q2 hHeld.1.size (fun k hk => by cases hk; omega), row_far hHeld.2 q2 (by intro h; have := Option.some.inj h; omega)⟩)
    clear q1 q2 hHeld
    go_frame
    refine hK.out _ _ hv11 (fun hHeld => ?_)
    clear hK K hv11
    refine wpAnyH_done (by kernel_rfl) ?_ _
    have BZ := Lib.hid hHeld.1
    clear hHeld
    go_wp2_with fail
    refine bodyPost_ret (results_cell_row rfl _ _ (w.heap.size + 1) 81 ([nV 1, (.slice (some ⟨gv10, 0, none⟩) 1 1), (.slice (some ⟨gv8, 0, none⟩) 1 1), nV 0]).toArray (0, 0) _ rfl FT.out Tryd.underlying81 rfl (by kernel_rfl)) rfl ?_
    exact ⟨_, rfl, fun W hW => ⟨⟨by show 1 ≤ _; omega, by show 0 ≤ _; omega⟩, _, _, rfl, insAt_one (row_kps NI.out hW (by have := GNI.out; show _ ≤ _; omega)) (x := firstX h32 ex) (firstX_ok ex H32.out) (KK.out.kps (fun sp n cap hv _ => by cases hv; have := GK.out sp rfl; show w.heap.size ≤ sp.block; omega) hW), outsAt_one (row_kps NO.out hW (by have := GNO.out; show _ ≤ _; omega)) (y := ⟨val, lock⟩) ⟨LK.out, VB.out⟩⟩, BZ.out⟩
set_option maxHeartbeats 2000000 in
set_option maxRecDepth 100000 in
theorem rooted_any (x : TBlk) (tv : Value) (w : World) (hh : HdOk x.head) (ht : TxsAt w tv x.txs) (hs : BlkSmall x) :
    Calls Tryd.prog 28 #[.agg (blL x.head tv).toArray] w fun e w' => e = .returned (.agg (blL { x.head with root := blRoot x } tv).toArray) ∧ Below w.heap.size w w' := by
  have HH := Lib.hid hh
  have HT := Lib.hid ht
  have TS := Lib.hid hs
  have T1 : Hid (tv.oneCell' = true) := ht.one
  obtain ⟨cs, hcs⟩ : ∃ cs, cs = blL x.head tv := ⟨_, rfl⟩
  have K1 : Hid (∀ W g, W.heap[g]? = some (.cells cs.toArray 50 (0, 0)) → BlBox W g x.head tv) := fun W g h => ⟨by rw [← hcs]; exact h⟩
  obtain ⟨R, hR⟩ : ∃ R, R = blRoot x := ⟨_, rfl⟩
  have LR : Hid (R.length = 32) := by show _ = _; rw [hR]; exact blRoot_length x
  have HR : Hid (rootL prH zM (idsL x.txs) = R) := hR.symm
  have HOK : Hid (HdOk { x.head with root := R }) := ⟨hh.1, hh.2.1, LR.out, hh.2.2.2.1, hh.2.2.2.2.1, hh.2.2.2.2.2⟩
  rw [← hR, ← hcs]
  obtain ⟨ds, hds⟩ : ∃ ds, ds = blL { x.head with root := R } tv := ⟨_, rfl⟩
  rw [← hds]
  have ON2 : Hid (ds.toArray.all (·.oneCell') = true) := by show _ = _; rw [hds]; exact blL_one T1.out
  have LS2 : Hid (ds.toArray.size = 69) := by show _ = _; rw [hds]; exact blL_size HOK.out _
  have K2 : Hid (∀ W g, BlBox W g { x.head with root := R } tv → W.heap[g]? = some (.cells ds.toArray 50 (0, 0))) := fun W g h => by rw [hds]; exact h.row
  clear hcs hds hR hh ht hs
  go_enter Tryd.func28, Tryd.ntmps28
  go_upto_region 1 with fail
  have f1 := row_below (heap_alloc_new w (.cells cs.toArray 50 (0, 0))) ((Below.refl _ _).alloc (Nat.le_refl _) (.cells Tryd.zeroCells50 50))
  have f2 := heap_alloc_new (w.alloc (.cells cs.toArray 50 (0, 0))) (.cells Tryd.zeroCells50 50)
  have b1 := ((Below.refl w.heap.size w).alloc (Nat.le_refl _) (.cells cs.toArray 50 (0, 0))).alloc (by simp) (.cells Tryd.zeroCells50 50)
  rw [World.size_alloc] at f2
  generalize hw1 : World.alloc _ _ = w1
  have e1 : (w.alloc (.cells cs.toArray 50 (0, 0))).alloc (.cells Tryd.zeroCells50 50) = w1 := hw1
  rw [e1] at f1 f2 b1
  have k1 := K1.out _ _ f1
  have c1 := k1.txs HH.out
  have K := Lib.hid k1
  have F2 := Lib.hid f2
  have B1 := Lib.hid b1
  clear f1 f2 b1 hw1 e1 k1 K1
  go_wp2_with fail
  refine (rids_any x.txs tv w1 (HT.out.below B1.out) TS.out.1 TS.out.2).mono ?_
  rintro e w2 ⟨v2, rfl, ho, hb2⟩
  have HA := Lib.hid ho.at
  have B2 := Lib.hid (B1.out.trans (hb2.mono B1.out.size))
  have K2' := Lib.hid (K.out.below hb2)
  have F3 := Lib.hid (row_below F2.out hb2)
  clear ho hb2 c1
  go_wp2_with fail
  refine (rootR_v (idsL x.txs) R v2 w2 HA.out (by rw [idsL_length]; have := TS.out.2; omega) HR.out).mono ?_
  rintro e w3 ⟨rfl, hb3⟩
  have B3 := Lib.hid (B2.out.trans (hb3.mono B2.out.size))
  have K3 := Lib.hid (K2'.out.below hb3)
  have F4 := Lib.hid (row_below F3.out hb3)
  clear hb3
  go_upto_region 2 with ((with_reducible show wpList _ _ _ _ _ _); refine st_blroot rfl (.tmp 8) (.tmp 6) rfl rfl R LR.out rfl HH.out K3.out ?_; intro w4 k4 g4; have K4 := Lib.hid (K2.out _ _ k4); have G4 := Lib.hid g4; clear k4 g4; go_frame)
  have F5 := Lib.hid (row_far F4.out G4.out (by intro h; have := Option.some.inj h; omega))
  have B4 := Lib.hid (B3.out.grown G4.out B3.out.size (fun k hk => by cases hk; exact Nat.le_refl _))
  go_wp2_with ((with_reducible show wpList _ _ _ _ _ _); first | (refine wpList_load_row rfl 50 (.tmp 1) rfl w.heap.size rfl 50 ds.toArray (0, 0) _ K4.out Tryd.underlying50 rfl (by rw [LS2.out]; kernel_rfl) ?_; go_frame) | (refine wpList_store_row rfl 50 (.tmp 2) (.tmp 9) rfl (w.heap.size + 1) ds.toArray rfl rfl 50 _ F5.out (by rw [LS2.out]; kernel_rfl) (by rw [LS2.out]; kernel_rfl) ON2.out ?_; go_frame))
  exact bodyPost_ret (results_cell_row rfl _ _ (w.heap.size + 1) 50 ds.toArray (0, 0) _ rfl (setRow_heap _ _ _ _ _ _ F5.out) Tryd.underlying50 rfl (by rw [LS2.out]; kernel_rfl)) rfl ⟨rfl, below_setRow B4.out (Nat.le_succ _) _⟩
set_option maxHeartbeats 2000000 in
set_option maxRecDepth 100000 in
theorem rstart_any (w : World) : Calls Tryd.prog 15 #[] w fun e w' => ∃ v, e = .returned v ∧ BlkAt w' v startX ∧ Below w.heap.size w w' := by
  obtain ⟨i0, hi, hz0, hz1, hz2⟩ := info_parts info_txc
  have LC : Hid (∀ W, Calls Tryd.prog 30 #[.slice none 0 0] W fun e w' => e = .returned (.agg ((sha []).map bV).toArray) ∧ Below W.heap.size W w') := fun W => ref_any [] none 0 0 W (nil_src _) (by omega)
  have FC : Hid (∀ W, Calls Tryd.prog 29 #[.int .i64 0, .int .u64 0, .agg ((sha []).map bV).toArray, .slice none 0 0] W fun e w' => ∃ v', e = .returned v' ∧ TxNew W w' v' startT ∧ Below W.heap.size W w') := fun W =>
    rfirst_any 0 0 0 (sha []) [] (.slice none 0 0) W (by decide) (by omega) (by omega) (sha_length _) (nil_src _) (by simp)
  obtain ⟨lk, hlk⟩ : ∃ lk, lk = ((sha []).map bV).toArray := ⟨_, rfl⟩
  rw [← hlk] at LC FC
  clear hlk
  go_enter Tryd.func15, Tryd.ntmps15
  go_upto_region 1 with fail
  have f0 := heap_alloc_new w (.cells Tryd.zeroCells50 50 (0, 0))
  have b0 := (Below.refl w.heap.size w).alloc (Nat.le_refl _) (.cells Tryd.zeroCells50 50 (0, 0))
  generalize hw1 : World.alloc _ _ = w1
  have e1 : w.alloc (.cells Tryd.zeroCells50 50 (0, 0)) = w1 := hw1
  rw [e1] at f0 b0
  have F0 := Lib.hid f0
  have B0 := Lib.hid b0
  clear f0 b0 hw1 e1
  go_wp2_with ((with_reducible show wpList _ _ _ _ _ _); refine wpList_buildTo rfl 32 _ rfl _ rfl (hdL startH).toArray (by kernel_rfl) ?_; go_frame)
  refine (LC.out w1).mono ?_
  rintro e w2 ⟨rfl, hb2⟩
  have B2 := Lib.hid (B0.out.trans (hb2.mono B0.out.size))
  have F2 := Lib.hid (row_below F0.out hb2)
  clear hb2
  go_wp2_with fail
  refine (FC.out w2).mono ?_
  rintro e w3 ⟨v3, rfl, ht3, hb3⟩
  have B3 := Lib.hid (B2.out.trans (hb3.mono B2.out.size))
  have F3 := Lib.hid (row_below F2.out hb3)
  have N3 := Lib.hid hb3
  have TA := Lib.hid ht3
  obtain ⟨_, iv, ov, rfl, _, _⟩ := ht3.at
  have LW2 : Hid (w.heap.size < w2.heap.size) := (Array.getElem?_eq_some_iff.1 F2.out).1
  clear hb3
  have CT : Hid ((txL startT iv ov).length = 4) := rfl
  obtain ⟨ct, hct⟩ : ∃ ct, ct = txL startT iv ov := ⟨_, rfl⟩
  rw [← hct] at CT TA ⊢
  have HCT := Lib.hid hct
  clear hct
  go_wp2_with ((with_reducible show wpList _ _ _ _ _ _); first | (refine wpList_slice_one rfl 48 81 (.tmp 3) rfl ct rfl Tryd.underlying48 i0 _ hi hz0 (by rw [hz1, CT.out]) (by rw [CT.out]; omega) (by rw [CT.out]; omega) ?_; have nf := heap_alloc_new w3 (.cells (ct).toArray 81 (0, 0)); have bb := (Below.refl w3.heap.size w3).alloc (Nat.le_refl _) (.cells (ct).toArray 81 (0, 0)); obtain ⟨gt, hgt⟩ : ∃ g, g = w3.heap.size := ⟨_, rfl⟩; generalize hq : World.alloc _ _ = w4; have e2 : w3.alloc (.cells (ct).toArray 81 (0, 0)) = w4 := hq; rw [e2] at nf bb; rw [← hgt] at nf ⊢; have NT := Lib.hid nf; have B4 := Lib.hid (B3.out.trans (bb.mono B3.out.size)); have F4 := Lib.hid (row_below F3.out bb); have GTL := Lib.hid ((show w2.heap.size ≤ gt by rw [hgt]; exact N3.out.size)); have TA4 := Lib.hid (TA.out.on (Kps.new bb)); clear nf bb hq e2 hgt; go_frame) | (refine wpList_buildTo rfl 50 _ rfl _ rfl (blL startH (.slice (some ⟨gt, 0, none⟩) 1 1)).toArray (by kernel_rfl) ?_; go_frame))
  have TX4 : Hid (Sty (fun k => w2.heap.size ≤ k) w4 (fun W => TxsAt W (.slice (some ⟨gt, 0, none⟩) 1 1) [startT])) := fun W hW => by
    have h1 := row_kps NT.out hW GTL.out
    have h2 := TA4.out W hW
    rw [HCT.out] at h1 h2
    exact txsAt_one h1 h2
  have RC := rooted_any startX0 (.slice (some ⟨gt, 0, none⟩) 1 1) w4 startH_ok TX4.out.now startX0_small
  obtain ⟨hd, hhd⟩ : ∃ hd, hd = ({ startX0.head with root := blRoot startX0 } : THd) := ⟨_, rfl⟩
  rw [← hhd] at RC
  have HOK : Hid (HdOk hd) := by show HdOk _; rw [hhd]; exact startX_ok
  have ON2 : Hid ((blL hd (.slice (some ⟨gt, 0, none⟩) 1 1)).toArray.all (·.oneCell') = true) := blL_one rfl
  have LS2 : Hid ((blL hd (.slice (some ⟨gt, 0, none⟩) 1 1)).toArray.size = 69) := blL_size HOK.out _
  obtain ⟨ds, hds⟩ : ∃ ds, ds = blL hd (.slice (some ⟨gt, 0, none⟩) 1 1) := ⟨_, rfl⟩
  rw [← hds] at ON2 LS2 RC
  obtain ⟨cs, hcs⟩ : ∃ cs, cs = blL startX0.head (.slice (some ⟨gt, 0, none⟩) 1 1) := ⟨_, rfl⟩
  rw [← hcs] at RC
  rw [show blL startH (.slice (some ⟨gt, 0, none⟩) 1 1) = cs from hcs.symm]
  have HDS := Lib.hid hds
  have HHD := Lib.hid hhd
  clear hds hhd hcs
  refine RC.mono ?_
  rintro e w5 ⟨rfl, hb5⟩
  have N5 := Lib.hid hb5
  have B5 := Lib.hid (B4.out.trans (hb5.mono B4.out.size))
  have FR5 := Lib.hid (row_below F4.out hb5)
  clear hb5 RC
  go_wp2_with ((with_reducible show wpList _ _ _ _ _ _); (refine wpList_store_row rfl 50 (.tmp 0) (.tmp 6) rfl w.heap.size ds.toArray rfl rfl 50 _ FR5.out (by rw [LS2.out]; kernel_rfl) (by rw [LS2.out]; kernel_rfl) ON2.out ?_; go_frame))
  refine bodyPost_ret (results_cell_row rfl _ _ w.heap.size 50 ds.toArray (0, 0) _ rfl (setRow_heap _ _ _ _ _ _ FR5.out) Tryd.underlying50 rfl (by rw [LS2.out]; kernel_rfl)) rfl ?_
  have G8 : w5.grownBy (w5.setRow w.heap.size ds.toArray) (some w.heap.size) := setRow_grown _
  refine ⟨_, rfl, ⟨startX_ok, .slice (some ⟨gt, 0, none⟩) 1 1, ?_, ?_⟩, B5.out.grown G8 B5.out.size (fun k hk => by cases hk; exact Nat.le_refl _)⟩
  · rw [HDS.out, HHD.out]
    rfl
  · exact TX4.out _ ((Kps.new N5.out).trans (Kps.grown G8 (fun k _ h e => by have := Option.some.inj e; have := LW2.out; omega)))
end Go.Proofs.YtnhmjlljnckieaaDoor.Sha

/-
  The laws' own chapter's example, and headers that grow out of numbers. Nothing that was there turns. Conditions: the numbers lie where the slice says, at most 60; the table of the rounds' words is there.
-/
namespace Go.Proofs.YtnhmjlljnckieaaDoor.Sha
open Go Go.RowKit
theorem field_head (h : THd) (hh : HdOk h) (tv : Value) (w : World) : (Instr.field 50 (.agg (blL h tv).toArray) 0).run Tryd.prog w = .ok (.agg (hdL h).toArray) w := by
  have hagg : (isAgg 32).run Tryd.prog w = .ok true w := by
    unfold isAgg
    rw [Sem.run_bind, run_underlying Tryd.underlying32 w]
    rfl
  have hsz : (Go.sizeOf 32).run Tryd.prog w = .ok 68 w := by kernel_rfl
  have e : (blL h tv).toArray.extract 0 68 = (hdL h).toArray := by
    rw [List.extract_toArray, List.extract_eq_take_drop, List.drop_zero, Nat.sub_zero, blL, List.take_append_of_le_length (by rw [hdL_length hh]; exact Nat.le_refl _), List.take_of_length_le (by rw [hdL_length hh]; exact Nat.le_refl _)]
  have hp : (part 32 (blL h tv).toArray 0).run Tryd.prog w = .ok (.agg (hdL h).toArray) w := by
    simp only [part, Sem.run_bind, hagg, Result.andThen_ok, if_true, hsz, Sem.run_pure, Nat.zero_add, e]
  have hf : ∀ x : Array Value, (Instr.field 50 (.agg x) 0).run Tryd.prog w = (part 32 x 0).run Tryd.prog w := fun x => by kernel_rfl
  rw [hf]
  exact hp
theorem ofT_start (h : THd) : ofT [stT h] (hdId h) = (h, 0, h.work, true) := by
  have e : findT [stT h] (hdId h) = ((0 : Nat) : Int) := findT_some (L := [stT h]) (x := stT h) rfl rfl (fun j y hj => by omega)
  unfold ofT
  rw [e, if_neg (by decide)]
  rfl
theorem numb_b (x n : Int) (hn : 1 ≤ n) (hn2 : n ≤ 4611686018427387904) (hx : -9223372036854775808 ≤ x ∧ x ≤ 9223372036854775807) (w : World) :
    Calls Tryd.prog 10 #[.int .i64 x, .int .i64 n] w fun e w' => e = .returned (.int .i64 (numb x n)) ∧ Below w.heap.size w w' :=
  (numb_any x n hn hn2 hx w).mono fun _ _ h => ⟨h.1, by rw [← h.2]; exact Below.refl _ _⟩
theorem info_hd : (Tryd.prog.info? 32).map (fun i => (i.zero, i.size, i.bytes)) = some (some (.agg (hdL hdZ).toArray), 68, 80) := by kernel_rfl
theorem built_hd (v t k : Nat) (p : List UInt8) (hp : p.length = 32) : Tryd.prog.built 32 [(0, .int .u32 (v : Int)), (1, .agg (p.map bV).toArray), (3, .int .u32 (t : Int)), (4, .int .u32 (k : Int))] = some (hdL ⟨v, p, zH, t, k, 0⟩).toArray := by
  have hz : ∀ parts, Tryd.prog.built 32 parts = Instr.fill ([(0, 1), (1, 32), (33, 32), (65, 1), (66, 1), (67, 1)].toArray[·]?) ([] ++ ([nV 0] ++ (List.replicate 32 (bV 0) ++ (List.replicate 32 (bV 0) ++ [nV 0, nV 0, nV 0])))).toArray parts := fun parts => by kernel_rfl
  have l1 : (p.map bV).length = 32 := by simp [hp]
  have e0 : hdL ⟨v, p, zH, t, k, 0⟩ = nV v :: (p.map bV ++ (List.replicate 32 (bV 0) ++ [nV t, nV k, nV 0])) := rfl
  rw [e0]
  obtain ⟨i, hi⟩ : ∃ i, i = p.map bV := ⟨_, rfl⟩
  rw [← hi] at l1 ⊢
  obtain ⟨Z, hZ⟩ : ∃ Z, Z = List.replicate 32 (bV 0) := ⟨_, rfl⟩
  have lz : Z.length = 32 := by rw [hZ]; rfl
  rw [hz, ← hZ, fill_mid _ 0 0 (.int .u32 (v : Int)) [nV v] [] [nV 0] _ _ rfl rfl rfl rfl, List.nil_append,
    fill_mid _ 1 1 (Value.agg i.toArray) i [nV v] Z _ _ rfl (by rw [l1]; rfl) rfl (by rw [l1, lz])]
  have e3 : [nV v] ++ (i ++ (Z ++ [nV 0, nV 0, nV 0])) = ([nV v] ++ i ++ Z) ++ ([nV 0] ++ [nV 0, nV 0]) := by simp
  rw [e3, fill_mid _ 3 65 (.int .u32 (t : Int)) [nV t] ([nV v] ++ i ++ Z) [nV 0] _ _ rfl rfl (by simp [l1, lz]) rfl]
  have e4 : ([nV v] ++ i ++ Z) ++ ([nV t] ++ [nV 0, nV 0]) = ([nV v] ++ i ++ Z ++ [nV t]) ++ ([nV 0] ++ [nV 0]) := by simp
  rw [e4, fill_mid _ 4 66 (.int .u32 (k : Int)) [nV k] ([nV v] ++ i ++ Z ++ [nV t]) [nV 0] _ _ rfl rfl (by simp [l1, lz]) rfl]
  show some _ = some _
  congr 2
  simp
/-- Numbers where a slice says. -/
def SrcZ (w : World) (sp : Option Addr) (m : Nat) (z : Nat → Int) : Prop := 0 < m → ∃ cb coff, sp = some ⟨cb, coff, none⟩ ∧ ∀ i, i < m → w.cell? ⟨cb, coff + i, none⟩ = some (.int .i64 (z i)) ∧ -9223372036854775808 ≤ z i ∧ z i ≤ 9223372036854775807
set_option maxHeartbeats 2000000 in
set_option maxRecDepth 100000 in
theorem tfirst_any (w : World) (hk : KTab w) : Calls Tryd.prog 5 #[] w fun e w' => e = .returned (.bool true) ∧ Below w.heap.size w w' := by
  have HK := Lib.hid hk
  clear hk
  go_enter Tryd.func5, Tryd.ntmps5
  go_wp2_with fail
  refine (rstart_any w).mono ?_
  rintro e w1 ⟨v, rfl, hb, bb⟩
  obtain ⟨hh, tv, rfl, _⟩ := hb
  have hf := field_head startX.head hh tv
  have NW := Lib.hid (ctnew_any w1 startX.head hh (HK.out.below bb))
  have TS : Hid (TrL (ndM [⟨stT startX.head, 0, .slice none 0 0⟩])) := stT_tr hh
  have OS := Lib.hid (ofT_start startX.head)
  have LI : Hid ((hdId startX.head).length = 32) := hdId_length _
  obtain ⟨cb, hcb⟩ : ∃ cb, cb = blL startX.head tv := ⟨_, rfl⟩
  rw [← hcb] at hf ⊢
  obtain ⟨cs, hcs⟩ : ∃ cs, cs = hdL startX.head := ⟨_, rfl⟩
  rw [← hcs] at hf NW
  have B1 := Lib.hid bb
  clear bb hh hcb hcs
  go_wp2_with fail
  clear hf
  refine NW.out.mono ?_
  rintro e w2 ⟨b, mb, g, rfl, hct, bb⟩
  have HT := Lib.hid hct
  have TR : Hid (TrL (ndM [⟨stT startX.head, g, .slice none 0 0⟩])) := TS.out
  have ST : Hid (Calls Tryd.prog 16 #[(.pointer (some ⟨b, 0, none⟩))] w2 fun e w' => e = .returned (.agg ((hdId startX.head).map bV).toArray) ∧ Below w2.heap.size w2 w') := ctstart_any w2 _ b mb _ hct TR.out
  have HG : Hid (∀ W, Below w2.heap.size w2 W → Calls Tryd.prog 17 #[(.pointer (some ⟨b, 0, none⟩)), .agg ((hdId startX.head).map bV).toArray] W fun e w' => e = .returned (.tuple #[.int .i64 0, .bool true]) ∧ Below W.heap.size W w') := fun W hW => by
    have h := ctheight_any W _ b mb _ (hdId startX.head) (hct.below hW) TR.out LI.out
    have e : ofT (ndM [⟨stT startX.head, g, .slice none 0 0⟩]) (hdId startX.head) = (startX.head, 0, startX.head.work, true) := OS.out
    rw [e] at h
    exact h
  have LN : Hid (∀ W, Below w2.heap.size w2 W → Calls Tryd.prog 20 #[(.pointer (some ⟨b, 0, none⟩))] W fun e w' => e = .returned (.int .i64 1) ∧ W = w') := fun W hW => ctlen_any W _ b mb _ (hct.below hW) TR.out
  obtain ⟨ci, hci⟩ : ∃ ci, ci = (hdId startX.head).map bV := ⟨_, rfl⟩
  rw [← hci] at ST HG
  have B2 := Lib.hid (B1.out.trans (bb.mono B1.out.size))
  clear hct bb NW TS OS hci
  go_wp2_with fail
  refine ST.out.mono ?_
  rintro e w3 ⟨rfl, bb⟩
  have C3 := Lib.hid bb
  have B3 := Lib.hid (B2.out.trans (bb.mono B2.out.size))
  clear bb ST
  go_wp2_with fail
  refine (HG.out w3 C3.out).mono ?_
  rintro e w4 ⟨rfl, bb⟩
  have C4 := Lib.hid (C3.out.trans (bb.mono C3.out.size))
  have B4 := Lib.hid (B3.out.trans (bb.mono B3.out.size))
  clear bb HG
  go_wp2_with fail
  refine (LN.out w4 C4.out).mono ?_
  rintro e w5 ⟨rfl, rfl⟩
  go_wp2_with fail
  go_ret
  exact ⟨rfl, B4.out⟩
def GrInv (z : Nat → Int) (m : Nat) (w : World) (vo vi : Value) (wr : World) : Prop :=
  ∃ (k : Nat) (ov : Value), ov = vo ∧ vi = .int .i64 (k : Int) ∧ k ≤ m ∧ RwOwn 68 32 w.heap.size wr ov ((grownN z k).map hdL) ∧ Below w.heap.size w wr
set_option maxHeartbeats 4000000 in
set_option maxRecDepth 100000 in
theorem tgrown_any (w : World) (sp : Option Addr) (m cap : Nat) (z : Nat → Int) (hz : SrcZ w sp m z) (hm : m ≤ 60) :
    Calls Tryd.prog 6 #[(.slice sp m cap)] w fun e w' => ∃ v, e = .returned v ∧ RwOwn 68 32 w.heap.size w' v ((grownN z m).map hdL) ∧ Below w.heap.size w w' := by
  obtain ⟨i0, hi, hz0, hz1, hz2⟩ := info_parts info_hd
  have HZ := Lib.hid hz
  have HM := Lib.hid hm
  clear hz hm
  go_enter Tryd.func6, Tryd.ntmps6
  go_wp2_with fail
  refine (rstart_any w).mono ?_
  rintro e w1 ⟨v, rfl, hb, bb⟩
  obtain ⟨hh, tv, rfl, _⟩ := hb
  have hf := field_head startX.head hh tv
  have LC : Hid ((hdL startX.head).length = 68) := hdL_length hh
  obtain ⟨cb, hcb⟩ : ∃ cb, cb = blL startX.head tv := ⟨_, rfl⟩
  rw [← hcb] at hf ⊢
  obtain ⟨cs, hcs⟩ : ∃ cs, cs = hdL startX.head := ⟨_, rfl⟩
  rw [← hcs] at hf LC
  have CSE := Lib.hid hcs
  have B1 := Lib.hid bb
  clear bb hh hcb hcs
  go_upto_region 2 with ((with_reducible show wpList _ _ _ _ _ _); (refine wpList_slice_one rfl 24 32 (.tmp 7) rfl cs rfl Tryd.underlying24 i0 _ hi hz0 (by rw [hz1, LC.out]) (by rw [LC.out]; omega) (by rw [LC.out]; omega) ?_; have nf := heap_alloc_new w1 (.cells (cs).toArray 32 (0, 0)); have bb := (Below.refl w1.heap.size w1).alloc (Nat.le_refl _) (.cells (cs).toArray 32 (0, 0)); obtain ⟨g1, hg1⟩ : ∃ g, g = w1.heap.size := ⟨_, rfl⟩; generalize hq : World.alloc _ _ = w2; have e2 : w1.alloc (.cells (cs).toArray 32 (0, 0)) = w2 := hq; rw [e2] at nf bb; rw [← hg1] at nf ⊢; have NF := Lib.hid nf; have B2 := Lib.hid (B1.out.trans (bb.mono B1.out.size)); have GB : Hid (w1.heap.size ≤ g1) := (by show _ ≤ _; rw [hg1]; exact Nat.le_refl _); clear nf bb hq e2 hg1; go_frame))
  clear hf
  have ST : Hid (RwOwn 68 32 w.heap.size w2 (.slice (some ⟨g1, 0, none⟩) 1 1) ((grownN z 0).map hdL)) := by
    have e : (grownN z 0).map hdL = [cs] := by rw [CSE.out]; rfl
    rw [e]
    exact rw_of_row NF.out (Nat.le_trans B1.out.size GB.out) LC.out
  clear B1 NF GB
  go_wp2_with fail
  go_loopw [3, 4] (fun vo vi wr => GrInv z m w vo vi wr) (fun _ vi _ => m - (intOf vi).toNat)
  case atStart => exact ⟨0, _, rfl, rfl, Nat.zero_le _, ST.out, B2.out⟩
  case round =>
    clear ST B2
    obtain ⟨k, ov, rfl, rfl, hk, ho, hb⟩ := hrel
    have B := Lib.hid hb
    by_cases hlt : k < m
    · obtain ⟨zb, zo, hsp, hzc⟩ := HZ.out (by omega)
      subst hsp
      have hzk := hzc k hlt
      have c0 := cell_below hzk.1 hb
      obtain ⟨nn, hnn⟩ : ∃ nn, nn = k + 1 := ⟨_, rfl⟩
      have GL : Hid ((grownN z k).length = nn) := by show _ = _; rw [grownN_length, hnn]
      obtain ⟨so, co, rfl⟩ : ∃ so co, ov = .slice so nn co := by
        obtain ⟨so, co, e⟩ := (ho.at (by omega)).shape
        exact ⟨so, co, by rw [e, List.length_map, GL.out]⟩
      obtain ⟨bo, oo, rfl, hgo⟩ := (ho.at (by omega)).get (by omega)
      obtain ⟨r, hr, hrn⟩ := numb_nat (z k) nn (by omega)
      obtain ⟨on, hon⟩ : ∃ on, (grownN z k)[r]? = some on := ⟨_, List.getElem?_eq_getElem (by rw [GL.out]; exact hrn)⟩
      have OKO := Lib.hid (grownN_ok z k on (List.mem_of_getElem? hon))
      have RO := Lib.hid (hgo r (hdL on) (by rw [List.getElem?_map, hon]; rfl))
      have LO : Hid ((hdL on).length = 68) := hdL_length OKO.out
      have LO' : Hid ((hdL on).toArray.size = 68) := by show _ = _; rw [List.size_toArray]; exact LO.out
      have OO : Hid ((hdL on).toArray.all (·.oneCell') = true) := all_oneCell_toArray (hdL_one' _)
      have RI := Lib.hid (fun W => rheadid_any on OKO.out W)
      have CT : Hid (∀ (W : World) (g : Nat), W.heap[g]? = some (.cells (hdL on).toArray 32 (0, 0)) → W.cell? ⟨g, 65, none⟩ = some (.int .u32 (on.time : Int))) := fun W g q => ((HdBox.mk q).cells OKO.out).2.1
      have NB := Lib.hid (numb_any (z k) (nn : Int) (by omega) (by have := HM.out; omega) hzk.2 wr)
      rw [hr] at NB
      have B30 := numb_bd ((z k).tdiv 64) 30 (by omega)
      have B4 := numb_bd ((z k).tdiv 2048) 4 (by omega)
      have ZB := Lib.hid hzk.2
      have NX : Hid (growH (grownN z k) k (z k) = ⟨k, hdId on, zH, (on.time + (numb ((z k).tdiv 64) 30).toNat) % 4294967296, 1 + (numb ((z k).tdiv 2048) 4).toNat, 0⟩) := by
        have e : (grownN z k).getD (numb (z k) (grownN z k).length).toNat startX.head = on := by
          rw [GL.out, hr, Int.toNat_natCast, List.getD_eq_getElem?_getD, hon]
          rfl
        show _ = _
        unfold growH
        rw [e, Nat.mod_eq_of_lt (show k < 4294967296 by have := HM.out; omega)]
      obtain ⟨a30, ha30⟩ : ∃ a30, a30 = numb ((z k).tdiv 64) 30 := ⟨_, rfl⟩
      obtain ⟨a4, ha4⟩ : ∃ a4, a4 = numb ((z k).tdiv 2048) 4 := ⟨_, rfl⟩
      rw [← ha30, ← ha4] at NX
      rw [← ha30] at B30
      rw [← ha4] at B4
      obtain ⟨t2, ht2⟩ : ∃ t2, t2 = (on.time + a30.toNat) % 4294967296 := ⟨_, rfl⟩
      obtain ⟨k2, hk2⟩ : ∃ k2, k2 = 1 + a4.toNat := ⟨_, rfl⟩
      rw [← ht2, ← hk2] at NX
      have N30 : Hid (∀ W, Calls Tryd.prog 10 #[.int .i64 ((z k).tdiv 64), .int .i64 30] W fun e w' => e = .returned (.int .i64 a30) ∧ Below W.heap.size W w') := fun W => by
        rw [ha30]
        exact numb_b _ 30 (by omega) (by omega) (by have h := ZB.out; have hb := tdiv_between (z k) 64 (by omega); rcases Int.le_total 0 (z k) with q | q; have := hb.1 q; omega; have := hb.2 q; omega) W
      have N4 : Hid (∀ W, Calls Tryd.prog 10 #[.int .i64 ((z k).tdiv 2048), .int .i64 4] W fun e w' => e = .returned (.int .i64 a4) ∧ Below W.heap.size W w') := fun W => by
        rw [ha4]
        exact numb_b _ 4 (by omega) (by omega) (by have h := ZB.out; have hb := tdiv_between (z k) 2048 (by omega); rcases Int.le_total 0 (z k) with q | q; have := hb.1 q; omega; have := hb.2 q; omega) W
      have BH : Hid (Tryd.prog.built 32 [(0, .int .u32 (k : Int)), (1, .agg ((hdId on).map bV).toArray), (3, .int .u32 (t2 : Int)), (4, .int .u32 (k2 : Int))] = some (hdL (growH (grownN z k) k (z k))).toArray) := by
        show _ = _
        rw [NX.out]
        exact built_hd k t2 k2 (hdId on) (hdId_length on)
      have LN : Hid ((hdL (growH (grownN z k) k (z k))).length = 68) := hdL_length (growH_ok _ _ _)
      have ONN : Hid (∀ u ∈ hdL (growH (grownN z k) k (z k)), u.oneCell' = true) := hdL_one' _
      have GS : Hid ((grownN z (k + 1)).map hdL = (grownN z k).map hdL ++ [hdL (growH (grownN z k) k (z k))]) := by show _ = _; rw [grownN, List.map_append]; rfl
      have DL : Hid (((grownN z k).map hdL).length ≤ 1000) := by show _ ≤ _; rw [List.length_map, GL.out, hnn]; have := HM.out; omega
      have OW := Lib.hid ho
      obtain ⟨L, hL⟩ : ∃ L, L = (grownN z k).map hdL := ⟨_, rfl⟩
      obtain ⟨cn, hcn⟩ : ∃ cn, cn = hdL (growH (grownN z k) k (z k)) := ⟨_, rfl⟩
      rw [← hL] at GS DL OW
      rw [← hcn] at GS BH LN ONN
      obtain ⟨ci, hci⟩ : ∃ ci, ci = (hdId on).map bV := ⟨_, rfl⟩
      rw [← hci] at RI BH
      obtain ⟨cw, hcw⟩ : ∃ cw, cw = hdL on := ⟨_, rfl⟩
      rw [← hcw] at RO LO LO' OO RI CT
      have T2 := Lib.hid ht2
      have K2 := Lib.hid hk2
      have B30 := Lib.hid B30
      have B4 := Lib.hid B4
      have HNN := Lib.hid hnn
      have TM : Hid (on.time ≤ 4294967295) := OKO.out.2.2.2.1
      have KM : Hid (k < 60) := by show _ < _; have := HM.out; omega
      have HZC := Lib.hid (hzc k hlt).1
      have r0 : 0 ≤ (r : Int) := by omega
      have r1 : (r : Int) < (nn : Int) := by omega
      have p0 : 0 ≤ (k : Int) := by omega
      have p1 : (k : Int) < (m : Int) := by omega
      clear hk ho hb hzc hzk hr hrn hon hgo ha30 ha4 ht2 hk2 hL hcn hci hcw NX hnn
      go_upto_region 5 with fail
      go_wp2_with fail
      refine NB.out.mono ?_
      rintro e w2 ⟨rfl, rfl⟩
      clear NB
      go_upto_region 6 with ((with_reducible show wpList _ _ _ _ _ _); first | (refine wpList_load_mid rfl 32 (.tmp 23) rfl bo (oo + r * 68) rfl cw _ RO.out Tryd.underlying32 rfl (by rw [LO.out]; kernel_rfl) ?_; go_frame) | (refine wpList_store_row rfl 32 (.tmp 5) (.tmp 24) rfl wr.heap.size cw.toArray rfl rfl 32 _ (heap_alloc_new _ _) (by rw [LO'.out]; kernel_rfl) (by rw [LO'.out]; rfl) OO.out ?_; go_frame))
      obtain ⟨_, f2, f3, f4⟩ := fill_setup (Below.refl wr.heap.size wr) (hdL hdZ).toArray cw.toArray 32
      generalize hqw3 : World.setRow _ _ _ = w3
      have ew3 : World.setRow (wr.alloc (.cells (hdL hdZ).toArray 32)) wr.heap.size cw.toArray = w3 := hqw3
      rw [ew3] at f2 f3 f4
      obtain ⟨g5, hg5⟩ : ∃ g5, g5 = wr.heap.size := ⟨_, rfl⟩
      rw [← hg5] at f2 ⊢
      have F5 := Lib.hid f2
      have Ng5 : Hid (wr.heap.size ≤ g5) := by show _ ≤ _; rw [hg5]; exact Nat.le_refl _
      have B3 := Lib.hid (B.out.trans (f4.mono B.out.size))
      have OW := Lib.hid (OW.out.keep f4)
      clear f2 f3 f4 hqw3 ew3 hg5
      clear c0 r0 r1 RO Ng5 LO' OO
      refine wp_region_end (fun w' => Below w3.heap.size w3 w') [25] (by kernel_rfl) (Below.drew (Below.refl _ _)) (fun hHeld => ?_)
      generalize hwd : w3.drew = wd at  hHeld ⊢
      clear hwd
      refine end_take (i := 0) (v := (.slice (some ⟨bo, oo, none⟩) nn co)) rfl (by kernel_rfl) (by kernel_rfl) (by kernel_rfl) (by kernel_rfl) (fun _ _ _ h => h) (Or.inl ⟨by rfl, fun w' _ => by kernel_rfl⟩) hHeld ?_
      go_frame
      refine end_take (i := 1) (v := (.int .i64 (k : Int))) rfl (by kernel_rfl) (by kernel_rfl) (by kernel_rfl) (by kernel_rfl) (fun _ _ _ h => h) (Or.inl ⟨by rfl, fun w' _ => by kernel_rfl⟩) hHeld ?_
      go_frame
      refine end_take (i := 2) (v := (.int .u32 (k : Int))) rfl (by kernel_rfl) (by kernel_rfl) (by kernel_rfl) (by kernel_rfl) (fun _ _ _ h => h) (Or.inl ⟨by rfl, fun w' _ => by go_simp; have := KM.out; rw [IntKind.wrap_u32]; omega⟩) hHeld ?_
      go_frame
      refine end_take (i := 3) (v := (.agg cw.toArray)) rfl (by kernel_rfl) (by kernel_rfl) (by kernel_rfl) (by kernel_rfl) (fun _ _ _ h => h) (yieldsIf_load_row (by rfl) 32 (.tmp 5) rfl g5 rfl 32 cw.toArray (0, 0) _ (fun w' hw' => row_below F5.out hw') Tryd.underlying32 rfl (by show _ = some cw.length; rw [LO.out]; kernel_rfl)) hHeld ?_
      go_frame
      refine end_take (i := 5) (v := (.pointer (some ⟨g5, 65, none⟩))) rfl (by kernel_rfl) (by kernel_rfl) (by kernel_rfl) (by kernel_rfl) (fun _ _ _ h => h) (Or.inl ⟨by rfl, fun w' _ => by kernel_rfl⟩) hHeld ?_
      go_frame
      refine end_take (i := 6) (v := (.int .u32 (on.time : Int))) rfl (by kernel_rfl) (by kernel_rfl) (by kernel_rfl) (by kernel_rfl) (fun _ _ _ h => h) (yieldsIf_load_one (by rfl) 28 (.tmp 30) rfl g5 (65) rfl _ _ (fun w' hw' => CT.out _ _ (row_below F5.out hw')) Tryd.underlying28 rfl) hHeld ?_
      go_frame
      refine end_take (i := 7) (v := (.slice (some ⟨zb, zo, none⟩) m cap)) rfl (by kernel_rfl) (by kernel_rfl) (by kernel_rfl) (by kernel_rfl) (fun _ _ _ h => h) (Or.inl ⟨by rfl, fun w' _ => by kernel_rfl⟩) hHeld ?_
      go_frame
      refine end_take (i := 8) (v := (.int .i64 (k : Int))) rfl (by kernel_rfl) (by kernel_rfl) (by kernel_rfl) (by kernel_rfl) (fun _ _ _ h => h) (Or.inl ⟨by rfl, fun w' _ => by kernel_rfl⟩) hHeld ?_
      go_frame
      refine end_take (i := 9) (v := (.pointer (some ⟨zb, zo + k, none⟩))) rfl (by kernel_rfl) (by kernel_rfl) (by kernel_rfl) (by kernel_rfl) (fun _ _ _ h => h) (Or.inl ⟨by rfl, fun w' _ => by go_simp⟩) hHeld ?_
      go_frame
      refine end_take (i := 10) (v := (.int .i64 (z k))) rfl (by kernel_rfl) (by kernel_rfl) (by kernel_rfl) (by kernel_rfl) (fun _ _ _ h => h) (yieldsIf_load_one (by rfl) 3 (.tmp 34) rfl zb (zo + k) rfl _ _ (fun w' hw' => cell_below HZC.out (B3.out.trans (hw'.mono B3.out.size))) Tryd.underlying3 rfl) hHeld ?_
      go_frame
      refine end_take (i := 11) (v := (.int .i64 ((z k).tdiv 64))) rfl (by kernel_rfl) (by kernel_rfl) (by kernel_rfl) (by kernel_rfl) (fun _ _ _ h => h) (Or.inl ⟨by rfl, fun w' _ => by go_simp; exact wrap_i64_tdiv _ _ ZB.out.1 ZB.out.2 (by omega)⟩) hHeld ?_
      go_frame
      refine end_take (i := 15) (v := (.slice (some ⟨zb, zo, none⟩) m cap)) rfl (by kernel_rfl) (by kernel_rfl) (by kernel_rfl) (by kernel_rfl) (fun _ _ _ h => h) (Or.inl ⟨by rfl, fun w' _ => by kernel_rfl⟩) hHeld ?_
      go_frame
      refine end_take (i := 16) (v := (.int .i64 (k : Int))) rfl (by kernel_rfl) (by kernel_rfl) (by kernel_rfl) (by kernel_rfl) (fun _ _ _ h => h) (Or.inl ⟨by rfl, fun w' _ => by kernel_rfl⟩) hHeld ?_
      go_frame
      refine end_take (i := 17) (v := (.pointer (some ⟨zb, zo + k, none⟩))) rfl (by kernel_rfl) (by kernel_rfl) (by kernel_rfl) (by kernel_rfl) (fun _ _ _ h => h) (Or.inl ⟨by rfl, fun w' _ => by go_simp⟩) hHeld ?_
      go_frame
      refine end_take (i := 18) (v := (.int .i64 (z k))) rfl (by kernel_rfl) (by kernel_rfl) (by kernel_rfl) (by kernel_rfl) (fun _ _ _ h => h) (yieldsIf_load_one (by rfl) 3 (.tmp 42) rfl zb (zo + k) rfl _ _ (fun w' hw' => cell_below HZC.out (B3.out.trans (hw'.mono B3.out.size))) Tryd.underlying3 rfl) hHeld ?_
      go_frame
      refine end_take (i := 19) (v := (.int .i64 ((z k).tdiv 2048))) rfl (by kernel_rfl) (by kernel_rfl) (by kernel_rfl) (by kernel_rfl) (fun _ _ _ h => h) (Or.inl ⟨by rfl, fun w' _ => by go_simp; exact wrap_i64_tdiv _ _ ZB.out.1 ZB.out.2 (by omega)⟩) hHeld ?_
      go_frame
      refine end_next (i := 4) (by kernel_rfl) rfl (fun K hK => ?_)
      go_simp
      refine (RI.out _).mono ?_
      rintro e v1 ⟨rfl, bb⟩
      have hv1 := hHeld.trans (bb.mono hHeld.size)
      clear bb hHeld
      go_wp2_with fail
      refine hK.out _ _ hv1 (fun hHeld => ?_)
      clear hK K hv1
      refine end_next (i := 12) (by kernel_rfl) rfl (fun K hK => ?_)
      go_simp
      refine (N30.out _).mono ?_
      rintro e v2 ⟨rfl, bb⟩
      have hv2 := hHeld.trans (bb.mono hHeld.size)
      clear bb hHeld
      go_wp2_with fail
      refine hK.out _ _ hv2 (fun hHeld => ?_)
      clear hK K hv2
      refine end_take (i := 13) (v := (.int .u32 a30)) rfl (by kernel_rfl) (by kernel_rfl) (by kernel_rfl) (by kernel_rfl) (fun _ _ _ h => h) (Or.inl ⟨by rfl, fun w' _ => by go_simp; have := B30.out; rw [IntKind.wrap_u32]; omega⟩) hHeld ?_
      go_frame
      refine end_take (i := 14) (v := (.int .u32 (t2 : Int))) rfl (by kernel_rfl) (by kernel_rfl) (by kernel_rfl) (by kernel_rfl) (fun _ _ _ h => h) (Or.inl ⟨by rfl, fun w' _ => by go_simp; have := B30.out; have := T2.out; rw [IntKind.wrap_u32]; omega⟩) hHeld ?_
      go_frame
      refine end_next (i := 20) (by kernel_rfl) rfl (fun K hK => ?_)
      go_simp
      refine (N4.out _).mono ?_
      rintro e v3 ⟨rfl, bb⟩
      have hv3 := hHeld.trans (bb.mono hHeld.size)
      clear bb hHeld
      go_wp2_with fail
      refine hK.out _ _ hv3 (fun hHeld => ?_)
      clear hK K hv3
      refine end_take (i := 21) (v := (.int .i64 (1 + a4))) rfl (by kernel_rfl) (by kernel_rfl) (by kernel_rfl) (by kernel_rfl) (fun _ _ _ h => h) (Or.inl ⟨by rfl, fun w' _ => by go_simp; have := B4.out; rw [IntKind.wrap_i64]; omega⟩) hHeld ?_
      go_frame
      refine end_take (i := 22) (v := (.int .u32 (k2 : Int))) rfl (by kernel_rfl) (by kernel_rfl) (by kernel_rfl) (by kernel_rfl) (fun _ _ _ h => h) (Or.inl ⟨by rfl, fun w' _ => by go_simp; have := B4.out; have := K2.out; rw [IntKind.wrap_u32]; omega⟩) hHeld ?_
      go_frame
      refine end_take (i := 23) (v := (.agg cn.toArray)) rfl (by kernel_rfl) (by kernel_rfl) (by kernel_rfl) (by kernel_rfl) (fun _ _ _ h => h) (yieldsIf_build (by rfl) 32 _ rfl [(0, .int .u32 (k : Int)), (1, .agg ci.toArray), (3, .int .u32 (t2 : Int)), (4, .int .u32 (k2 : Int))] (by kernel_rfl) _ BH.out) hHeld ?_
      go_frame
      refine end_next (i := 24) (by kernel_rfl) rfl (fun K hK => ?_)
      rw [if_pos (by rfl)]
      refine wp_slice_one 24 32 (.tmp 48) rfl cn rfl Tryd.underlying24 i0 _ hi hz0 (by rw [hz1, LN.out]) (by rw [LN.out]; omega) (by rw [LN.out]; omega) ?_
      have nf := heap_alloc_new v3 (.cells cn.toArray 32 (0, 0))
      have bb := (Below.refl v3.heap.size v3).alloc (Nat.le_refl _) (.cells cn.toArray 32 (0, 0))
      obtain ⟨gv4, hgv4⟩ : ∃ g, g = v3.heap.size := ⟨_, rfl⟩
      generalize hqv4 : World.alloc _ _ = v4
      have ev4 : v3.alloc (.cells cn.toArray 32 (0, 0)) = v4 := hqv4
      rw [ev4] at nf bb
      rw [← hgv4] at nf ⊢
      have NF := Lib.hid nf
      have hv4 := hHeld.trans (bb.mono hHeld.size)
      clear nf bb hqv4 ev4 hgv4 hHeld
      go_frame
      refine hK.out _ _ hv4 (fun hHeld => ?_)
      clear hK K hv4
      refine end_last (i := 25) (by kernel_rfl) (by kernel_rfl) rfl (fun K hK => ?_)
      rw [if_pos (by rfl)]
      have OWa := Lib.hid (OW.out.keep hHeld)
      have Ba := Lib.hid (B3.out.trans (hHeld.mono B3.out.size))
      refine wp_append_row v4 (.tmp 25) (.tmp 49) 24 rfl w.heap.size 32 i0 (.agg (hdL hdZ).toArray) 68 80 Tryd.underlying24 hi hz0 hz1 hz2 (by kernel_rfl) (by decide) (.slice (some ⟨bo, oo, none⟩) nn co) L.length L.flatten rfl OWa.out.1 ⟨gv4, 0, none⟩ 1 1 cn rfl (by rw [LN.out]) (fun j u hj => by rw [Addr.add_mid]; exact range_of_box NF.out j u hj) ONN.out (by have := DL.out; unfold maxLen; omega) (by have := DL.out; omega) Ba.out.size ?_
      intro nv v5 q1 q2 q3
      have OWn : Hid (RwOwn 68 32 w.heap.size v5 nv (L ++ [cn])) := RwOwn.push OWa.out.2 LN.out q1
      have Bn := Lib.hid (own_grown Ba.out (Nat.le_refl _) Ba.out.size OWa.out.1 q2)
      clear q1 q2 q3 hHeld OWa Ba NF
      go_frame
      refine hK.out _ _ ?_
      clear hK K
      refine end_late (i := 26) (v := nv) rfl (by kernel_rfl) (by kernel_rfl) (by kernel_rfl) (by kernel_rfl) (by kernel_rfl) (fun _ _ _ h => h) (Or.inl ⟨by rfl, fun w' _ => by kernel_rfl⟩) ?_
      go_frame
      refine end_done (by kernel_rfl) ?_ _
      have km := KM.out
      go_wp2_with fail
      go_roundw
      case rel => exact ⟨k + 1, nv, rfl, by go_num, by omega, by rw [GS.out]; exact OWn.out, Bn.out⟩
      case measure => simp [intOf]; omega
    · have e : k = m := by omega
      subst e
      have OW := Lib.hid ho
      clear ho hb hk
      go_wp2_with fail
      go_ret
      exact ⟨_, rfl, OW.out, B.out⟩
end Go.Proofs.YtnhmjlljnckieaaDoor.Sha
