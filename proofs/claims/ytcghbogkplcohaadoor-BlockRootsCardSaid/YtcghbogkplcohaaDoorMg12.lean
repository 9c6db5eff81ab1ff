/-
  Texts of this proof joined into one file: BlFirst, BlMath, BlSm, BlSize, BytesEq. What each holds, and under which conditions, its own first sentence tells.
-/
import Derived.IntWalk
import Derived.Lib.BufferRead
import Derived.Test.YtcghbogkplcohaaDoorMg07
import Derived.Test.YtcghbogkplcohaaDoorMg08
import Derived.Test.YtcghbogkplcohaaDoorMg11
import Derived.Test.YtcghbogkplcohaaDoorMg05
import Derived.Test.YtcghbogkplcohaaDoorMg04
import Derived.Test.YtcghbogkplcohaaDoorMg06
import Derived.Test.YtcghbogkplcohaaDoorMg01
/-
  Package block makes the first transaction of a block. New memory; nothing that was there turns. Condition: the bytes that are added lie where the slice says.
-/
namespace Go.Proofs.YtcghbogkplcohaaDoor.Sha
open Go Go.RowKit
theorem built_outl (v : Nat) (l : List UInt8) (hl : l.length = 32) : Tryd.prog.built 44 [(0, .int .u64 (v : Int)), (1, .agg (l.map bV).toArray)] = some (outL ⟨v, l⟩).toArray := by
  have hz : ∀ parts, Tryd.prog.built 44 parts = Instr.fill ([(0, 1), (1, 32)].toArray[·]?) (uV 0 :: List.replicate 32 (bV 0)).toArray parts := fun parts => by kernel_rfl
  have hm : (l.map bV).length = 32 := by simp [hl]
  rw [hz, fill_part _ 0 0 (.int .u64 (v : Int)) [uV v] _ _ rfl rfl (by simp), fill_part _ 1 1 (.agg (l.map bV).toArray) (l.map bV) _ _ rfl (by rw [hm]; rfl) (by rw [hm]; simp)]
  have e : ∀ A : List Value, A.length ≤ 33 → A.drop (1 + (l.map bV).length) = [] := fun A hA => List.drop_of_length_le (by rw [hm]; omega)
  rw [e _ (by simp), List.append_nil]
  rfl
/-- The first transaction of a block. -/
def firstX (h32 : Nat) (ex : List UInt8) : TIn := ⟨zH, 4294967295, leB h32 4 ++ ex, 4294967295⟩
def firstT (h32 val : Nat) (lock ex : List UInt8) : TTx := ⟨1, [firstX h32 ex], [⟨val, lock⟩], 0⟩
theorem firstX_ok {h32 : Nat} (ex : List UInt8) (_ : h32 ≤ 4294967295) : InOk (firstX h32 ex) := ⟨zH_length, by show 4294967295 ≤ _; omega, by show 4294967295 ≤ _; omega⟩
set_option maxHeartbeats 4000000 in
set_option maxRecDepth 100000 in
theorem blfirst_any (h : Int) (h32 val : Nat) (lock ex : List UInt8) (ve : Value) (w : World) (hh : IntKind.u32.wrap h = (h32 : Int)) (h3 : h32 ≤ 4294967295) (hv : val ≤ 18446744073709551615) (hl : lock.length = 32) (hs : SrcB w ve ex) (he : ex.length ≤ 70368744170000) :
    Calls Tryd.prog 6 #[.int .i64 h, .int .u64 (val : Int), .agg (lock.map bV).toArray, ve] w fun e w' => ∃ v', e = .returned v' ∧ TxNew w w' v' (firstT h32 val lock ex) ∧ Below w.heap.size w w' := by
  obtain ⟨i1, hi1, hy0, hy1, hy2⟩ := info_parts info_bytes
  obtain ⟨i2, hi2, hx0, hx1, hx2⟩ := info_parts info_in
  obtain ⟨i3, hi3, hv0, hv1, hv2⟩ := info_parts info_out
  obtain ⟨se, ne, ce, rfl, q1, q2⟩ := hs.shape'
  clear q1 q2
  have H32 := Lib.hid h3
  have LK := Lib.hid hl
  have LL : Hid ((lock.map bV).toArray.size = 32) := by show _ = _; simp [hl]
  have LO : Hid ((outL ⟨val, lock⟩).length = 33) := outL_length _ hl
  have VB := Lib.hid hv
  have SE := Lib.hid hs
  have LE := Lib.hid he
  clear hl hs he hv h3
  go_enter Tryd.func6, Tryd.ntmps6
  go_upto_region 1 with fail
  have f1 := row_below (heap_alloc_new w (.cells (lock.map bV).toArray 23 (0, 0))) ((Below.refl _ _).alloc (Nat.le_refl _) (.cells [nV 0, .slice none 0 0, .slice none 0 0, nV 0].toArray 32))
  have f2 := heap_alloc_new (w.alloc (.cells (lock.map bV).toArray 23 (0, 0))) (.cells [nV 0, .slice none 0 0, .slice none 0 0, nV 0].toArray 32)
  have b1 := ((Below.refl w.heap.size w).alloc (Nat.le_refl _) (.cells (lock.map bV).toArray 23 (0, 0))).alloc (by simp) (.cells [nV 0, .slice none 0 0, .slice none 0 0, nV 0].toArray 32)
  rw [World.size_alloc] at f2
  generalize hw1 : World.alloc _ _ = w1
  have e1 : (w.alloc (.cells (lock.map bV).toArray 23 (0, 0))).alloc (.cells [nV 0, .slice none 0 0, .slice none 0 0, nV 0].toArray 32) = w1 := hw1
  rw [e1] at f1 f2 b1
  have F1 := Lib.hid f1
  have FT := Lib.hid f2
  have B1 := Lib.hid b1
  clear f1 f2 b1 hw1 e1
  refine wp_region_held_drew (S := (fun w' => Below w.heap.size w w' ∧ w'.heap[w.heap.size]? = some (.cells (lock.map bV).toArray 23 (0, 0)))) (by kernel_rfl) (⟨Below.drew B1.out, F1.out⟩) (fun hHeld => ?_)
  have FT : Hid (w1.drew.heap[w.heap.size + 1]? = some (.cells [nV 0, .slice none 0 0, .slice none 0 0, nV 0].toArray 32 (0, 0))) := FT.out
  generalize hwd : w1.drew = wd at FT hHeld ⊢
  clear hwd
  refine held_take (i := 1) (v := (.int .i64 h)) rfl (by kernel_rfl) (by kernel_rfl) (by kernel_rfl) (fun _ _ _ h => h) (Or.inl ⟨by rfl, fun w' _ => by kernel_rfl⟩) hHeld ?_
  go_frame
  refine held_take (i := 2) (v := (.int .u32 (h32 : Int))) rfl (by kernel_rfl) (by kernel_rfl) (by kernel_rfl) (fun _ _ _ h => h) (Or.inl ⟨by rfl, fun w' _ => by go_simp⟩) hHeld ?_
  go_frame
  refine held_take (i := 4) (v := (.slice se ne ce)) rfl (by kernel_rfl) (by kernel_rfl) (by kernel_rfl) (fun _ _ _ h => h) (Or.inl ⟨by rfl, fun w' _ => by kernel_rfl⟩) hHeld ?_
  go_frame
  refine held_take (i := 9) (v := (.int .u64 (val : Int))) rfl (by kernel_rfl) (by kernel_rfl) (by kernel_rfl) (fun _ _ _ h => h) (Or.inl ⟨by rfl, fun w' _ => by kernel_rfl⟩) hHeld ?_
  go_frame
  refine held_take (i := 10) (v := (.agg (lock.map bV).toArray)) rfl (by kernel_rfl) (by kernel_rfl) (by kernel_rfl) (fun _ _ _ h => h) (yieldsIf_load_row (by rfl) 23 (.tmp 6) rfl w.heap.size rfl 23 (lock.map bV).toArray (0, 0) _ (fun w' hw' => hw'.2) Tryd.underlying23 rfl (by rw [LL.out]; kernel_rfl)) hHeld ?_
  go_frame
  refine held_take (i := 11) (v := (.agg (outL ⟨val, lock⟩).toArray)) rfl (by kernel_rfl) (by kernel_rfl) (by kernel_rfl) (fun _ _ _ h => h) (yieldsIf_build (by rfl) 44 _ rfl [(0, .int .u64 (val : Int)), (1, .agg (lock.map bV).toArray)] (by kernel_rfl) _ (built_outl val lock LK.out)) hHeld ?_
  go_frame
  refine wpAnyH_ready (rs := [0, 12]) (by kernel_rfl) (by simp) (held_cons rfl (fun K hK => ?_) (held_cons rfl (fun K hK => ?_) AllReadyH.nil))
  · skip
    go_simp
    refine (null_any _).mono ?_
    rintro e v1 ⟨rfl, bb⟩
    have FT := Lib.hid (row_below FT.out bb)
    have hv1 := (show _ ∧ _ from ⟨hHeld.1.trans (bb.mono hHeld.1.size), row_below hHeld.2 bb⟩)
    clear bb hHeld
    go_wp2_with fail
    refine hK.out _ _ hv1 (fun hHeld => ?_)
    clear hK K hv1
    refine wpAnyH_ready (rs := [3, 12]) (by kernel_rfl) (by simp) (held_cons rfl (fun K hK => ?_) (held_cons rfl (fun K hK => ?_) AllReadyH.nil))
    · skip
      go_simp
      refine (four_new [] _ h32 _ (nil_src _) (by simp) H32.out).mono ?_
      rintro e v2 ⟨s4, n4, c4, rfl, hn4, hc4⟩
      have KA := Lib.hid hc4.src
      have bb := hc4.2
      clear hn4 hc4
      have FT := Lib.hid (row_below FT.out bb)
      have hv2 := (show _ ∧ _ from ⟨hHeld.1.trans (bb.mono hHeld.1.size), row_below hHeld.2 bb⟩)
      clear bb hHeld
      go_wp2_with fail
      refine hK.out _ _ hv2 (fun hHeld => ?_)
      clear hK K hv2
      refine wpAnyH_ready (rs := [5, 12]) (by kernel_rfl) (by simp) (held_cons rfl (fun K hK => ?_) (held_cons rfl (fun K hK => ?_) AllReadyH.nil))
      · skip
        rw [if_pos (by rfl)]
        refine wp_buildSlice 72 40 2 _ rfl #[.slice s4 n4 c4, .slice se ne ce] i1 (.slice none 0 0) Tryd.underlying72 hi1 hy0 (by rw [hy1]; omega) (by rw [hy1]; omega) (by rw [hy1]; kernel_rfl) ?_
        have nf := heap_alloc_new v2 (.cells #[.slice s4 n4 c4, .slice se ne ce] 40 (0, 0))
        have bb := (Below.refl v2.heap.size v2).alloc (Nat.le_refl _) (.cells #[.slice s4 n4 c4, .slice se ne ce] 40 (0, 0))
        obtain ⟨gv3, hgv3⟩ : ∃ g, g = v2.heap.size := ⟨_, rfl⟩
        generalize hqv3 : World.alloc _ _ = v3
        have ev3 : v2.alloc (.cells #[.slice s4 n4 c4, .slice se ne ce] 40 (0, 0)) = v3 := hqv3
        rw [ev3] at nf bb
        rw [← hgv3] at nf ⊢
        have NS := Lib.hid nf
        have FT := Lib.hid (row_below FT.out bb)
        have KA := Lib.hid (KA.out.below bb)
        have hv3 := (show _ ∧ _ from ⟨hHeld.1.trans (bb.mono hHeld.1.size), row_below hHeld.2 bb⟩)
        clear nf bb hqv3 ev3 hgv3 hHeld
        go_frame
        refine hK.out _ _ hv3 (fun hHeld => ?_)
        clear hK K hv3
        refine wpAnyH_ready (rs := [6, 12]) (by kernel_rfl) (by simp) (held_cons rfl (fun K hK => ?_) (held_cons rfl (fun K hK => ?_) AllReadyH.nil))
        · skip
          go_simp
          refine (concat_any ([] ++ leB h32 4) ex _ _ gv3 _ (by rw [cell_of_row _ _ _ _ _ _ NS.out]; rfl) (by rw [cell_of_row _ _ _ _ _ _ NS.out]; rfl) KA.out (SE.out.below hHeld.1) (by simp [leB_length]) (by simp [leB_length]) LE.out).mono ?_
          rintro e v4 ⟨gk, nk, ck, rfl, hgk, kk, bb⟩
          have GK : Hid (w.heap.size + 1 < gk) := Nat.lt_of_lt_of_le (Array.getElem?_eq_some_iff.1 FT.out).1 hgk
          have KK := Lib.hid kk
          clear kk hgk
          have FT := Lib.hid (row_below FT.out bb)
          have KA := Lib.hid (KA.out.below bb)
          have NS := Lib.hid (row_below NS.out bb)
          have hv4 := (show _ ∧ _ from ⟨hHeld.1.trans (bb.mono hHeld.1.size), row_below hHeld.2 bb⟩)
          clear bb hHeld
          go_wp2_with fail
          refine hK.out _ _ hv4 (fun hHeld => ?_)
          clear hK K hv4
          refine held_take (i := 7) (v := (.agg (inL (firstX h32 ex) (.slice (some ⟨gk, 0, none⟩) nk ck)).toArray)) rfl (by kernel_rfl) (by kernel_rfl) (by kernel_rfl) (fun _ _ _ h => h) (yieldsIf_build (by rfl) 42 _ rfl [(0, .agg nullL.toArray), (1, .slice (some ⟨gk, 0, none⟩) nk ck), (2, .int .u32 4294967295)] (by kernel_rfl) _ (by kernel_rfl)) hHeld ?_
          go_frame
          refine wpAnyH_ready (rs := [8, 12]) (by kernel_rfl) (by simp) (held_cons rfl (fun K hK => ?_) (held_cons rfl (fun K hK => ?_) AllReadyH.nil))
          · skip
            rw [if_pos (by rfl)]
            refine wp_slice_one 29 42 (.tmp 16) rfl (inL (firstX h32 ex) (.slice (some ⟨gk, 0, none⟩) nk ck)) rfl Tryd.underlying29 i2 _ hi2 hx0 (by rw [hx1]; rfl) (by show 0 < 35; omega) (by show 35 ≤ _; omega) ?_
            have nf := heap_alloc_new v4 (.cells (inL (firstX h32 ex) (.slice (some ⟨gk, 0, none⟩) nk ck)).toArray 42 (0, 0))
            have bb := (Below.refl v4.heap.size v4).alloc (Nat.le_refl _) (.cells (inL (firstX h32 ex) (.slice (some ⟨gk, 0, none⟩) nk ck)).toArray 42 (0, 0))
            obtain ⟨gv5, hgv5⟩ : ∃ g, g = v4.heap.size := ⟨_, rfl⟩
            generalize hqv5 : World.alloc _ _ = v5
            have ev5 : v4.alloc (.cells (inL (firstX h32 ex) (.slice (some ⟨gk, 0, none⟩) nk ck)).toArray 42 (0, 0)) = v5 := hqv5
            rw [ev5] at nf bb
            rw [← hgv5] at nf ⊢
            have NI := Lib.hid nf
            have GNI : Hid (w.heap.size + 1 < gv5) := by show _ < _; rw [hgv5]; exact (Array.getElem?_eq_some_iff.1 FT.out).1
            have FT := Lib.hid (row_below FT.out bb)
            have KA := Lib.hid (KA.out.below bb)
            have NS := Lib.hid (row_below NS.out bb)
            have KK := Lib.hid (KK.out.below bb)
            have hv5 := (show _ ∧ _ from ⟨hHeld.1.trans (bb.mono hHeld.1.size), row_below hHeld.2 bb⟩)
            clear nf bb hqv5 ev5 hgv5 hHeld
            go_frame
            refine hK.out _ _ hv5 (fun hHeld => ?_)
            clear hK K hv5
            refine wpAnyH_ready (rs := [12]) (by kernel_rfl) (by simp) (held_cons rfl (fun K hK => ?_) AllReadyH.nil)
            rw [if_pos (by rfl)]
            refine wp_slice_one 30 44 (.tmp 20) rfl (outL ⟨val, lock⟩) rfl Tryd.underlying30 i3 _ hi3 hv0 (by rw [hv1, LO.out]) (by rw [LO.out]; omega) (by rw [LO.out]; omega) ?_
            have nf := heap_alloc_new v5 (.cells (outL ⟨val, lock⟩).toArray 44 (0, 0))
            have bb := (Below.refl v5.heap.size v5).alloc (Nat.le_refl _) (.cells (outL ⟨val, lock⟩).toArray 44 (0, 0))
            obtain ⟨gv6, hgv6⟩ : ∃ g, g = v5.heap.size := ⟨_, rfl⟩
            generalize hqv6 : World.alloc _ _ = v6
            have ev6 : v5.alloc (.cells (outL ⟨val, lock⟩).toArray 44 (0, 0)) = v6 := hqv6
            rw [ev6] at nf bb
            rw [← hgv6] at nf ⊢
            have NO := Lib.hid nf
            have GNO : Hid (w.heap.size + 1 < gv6) := by show _ < _; rw [hgv6]; exact (Array.getElem?_eq_some_iff.1 FT.out).1
            have FT := Lib.hid (row_below FT.out bb)
            have KA := Lib.hid (KA.out.below bb)
            have NS := Lib.hid (row_below NS.out bb)
            have KK := Lib.hid (KK.out.below bb)
            have NI := Lib.hid (row_below NI.out bb)
            have hv6 := (show _ ∧ _ from ⟨hHeld.1.trans (bb.mono hHeld.1.size), row_below hHeld.2 bb⟩)
            clear nf bb hqv6 ev6 hgv6 hHeld
            go_frame
            refine hK.out _ _ hv6 (fun hHeld => ?_)
            clear hK K hv6
            refine held_take (i := 13) (v := (.agg ([nV 1, (.slice (some ⟨gv5, 0, none⟩) 1 1), (.slice (some ⟨gv6, 0, none⟩) 1 1), nV 0]).toArray)) rfl (by kernel_rfl) (by kernel_rfl) (by kernel_rfl) (fun _ _ _ h => h) (yieldsIf_build (by rfl) 32 _ rfl [(0, .int .u32 1), (1, (.slice (some ⟨gv5, 0, none⟩) 1 1)), (2, (.slice (some ⟨gv6, 0, none⟩) 1 1))] (by kernel_rfl) _ (by kernel_rfl)) hHeld ?_
            go_frame
            refine wpAnyH_ready (rs := [14]) (by kernel_rfl) (by simp) (held_cons rfl (fun K hK => ?_) AllReadyH.nil)
            rw [if_pos (by rfl)]
            refine wp_store_whole 32 (.tmp 8) (.tmp 22) rfl (w.heap.size + 1) [nV 0, .slice none 0 0, .slice none 0 0, nV 0] [nV 1, (.slice (some ⟨gv5, 0, none⟩) 1 1), (.slice (some ⟨gv6, 0, none⟩) 1 1), nV 0] 32 rfl rfl (rfl) FT.out (by kernel_rfl) (by kernel_rfl) ?_
            intro v7 q1 q2
            have FT := Lib.hid q1
            have KK := Lib.hid (KeyAt.off KK.out (fun sp n cap hv _ hq => by cases hv; have e : w.heap.size + 1 = gk := Option.some.inj hq; have := GK.out; omega) q2)
            have NI := Lib.hid (row_far NI.out q2 (by intro h; have := Option.some.inj h; have := GNI.out; omega))
            have NO := Lib.hid (row_far NO.out q2 (by intro h; have := Option.some.inj h; have := GNO.out; omega))
            have hv7 := (show _ ∧ _ from ⟨hHeld.1.grown q2 hHeld.1.size (fun k hk => by cases hk; omega), row_far hHeld.2 q2 (by intro h; have := Option.some.inj h; omega)⟩)
            clear q1 q2 hHeld
            go_frame
            refine hK.out _ _ hv7 (fun hHeld => ?_)
            clear hK K hv7
            refine wpAnyH_done (by kernel_rfl) ?_ _
            have BZ := Lib.hid hHeld.1
            clear hHeld
            go_wp2_with fail
            refine bodyPost_ret (results_cell_row rfl _ _ (w.heap.size + 1) 32 ([nV 1, (.slice (some ⟨gv5, 0, none⟩) 1 1), (.slice (some ⟨gv6, 0, none⟩) 1 1), nV 0]).toArray (0, 0) _ rfl FT.out Tryd.underlying32 rfl (by kernel_rfl)) rfl ?_
            exact ⟨_, rfl, fun W hW => ⟨⟨by show 1 ≤ _; omega, by show 0 ≤ _; omega⟩, _, _, rfl, insAt_one (row_kps NI.out hW (by have := GNI.out; show _ ≤ _; omega)) (x := firstX h32 ex) (firstX_ok ex H32.out) (KK.out.kps (fun sp n cap hv _ => by cases hv; have := GK.out; show w.heap.size ≤ gk; omega) hW), outsAt_one (row_kps NO.out hW (by have := GNO.out; show _ ≤ _; omega)) (y := ⟨val, lock⟩) ⟨LK.out, VB.out⟩⟩, BZ.out⟩
          · skip
            rw [if_pos (by rfl)]
            refine wp_slice_one 30 44 (.tmp 20) rfl (outL ⟨val, lock⟩) rfl Tryd.underlying30 i3 _ hi3 hv0 (by rw [hv1, LO.out]) (by rw [LO.out]; omega) (by rw [LO.out]; omega) ?_
            have nf := heap_alloc_new v4 (.cells (outL ⟨val, lock⟩).toArray 44 (0, 0))
            have bb := (Below.refl v4.heap.size v4).alloc (Nat.le_refl _) (.cells (outL ⟨val, lock⟩).toArray 44 (0, 0))
            obtain ⟨gv8, hgv8⟩ : ∃ g, g = v4.heap.size := ⟨_, rfl⟩
            generalize hqv8 : World.alloc _ _ = v8
            have ev8 : v4.alloc (.cells (outL ⟨val, lock⟩).toArray 44 (0, 0)) = v8 := hqv8
            rw [ev8] at nf bb
            rw [← hgv8] at nf ⊢
            have NO := Lib.hid nf
            have GNO : Hid (w.heap.size + 1 < gv8) := by show _ < _; rw [hgv8]; exact (Array.getElem?_eq_some_iff.1 FT.out).1
            have FT := Lib.hid (row_below FT.out bb)
            have KA := Lib.hid (KA.out.below bb)
            have NS := Lib.hid (row_below NS.out bb)
            have KK := Lib.hid (KK.out.below bb)
            have hv8 := (show _ ∧ _ from ⟨hHeld.1.trans (bb.mono hHeld.1.size), row_below hHeld.2 bb⟩)
            clear nf bb hqv8 ev8 hgv8 hHeld
            go_frame
            refine hK.out _ _ hv8 (fun hHeld => ?_)
            clear hK K hv8
            refine wpAnyH_ready (rs := [8]) (by kernel_rfl) (by simp) (held_cons rfl (fun K hK => ?_) AllReadyH.nil)
            rw [if_pos (by rfl)]
            refine wp_slice_one 29 42 (.tmp 16) rfl (inL (firstX h32 ex) (.slice (some ⟨gk, 0, none⟩) nk ck)) rfl Tryd.underlying29 i2 _ hi2 hx0 (by rw [hx1]; rfl) (by show 0 < 35; omega) (by show 35 ≤ _; omega) ?_
            have nf := heap_alloc_new v8 (.cells (inL (firstX h32 ex) (.slice (some ⟨gk, 0, none⟩) nk ck)).toArray 42 (0, 0))
            have bb := (Below.refl v8.heap.size v8).alloc (Nat.le_refl _) (.cells (inL (firstX h32 ex) (.slice (some ⟨gk, 0, none⟩) nk ck)).toArray 42 (0, 0))
            obtain ⟨gv9, hgv9⟩ : ∃ g, g = v8.heap.size := ⟨_, rfl⟩
            generalize hqv9 : World.alloc _ _ = v9
            have ev9 : v8.alloc (.cells (inL (firstX h32 ex) (.slice (some ⟨gk, 0, none⟩) nk ck)).toArray 42 (0, 0)) = v9 := hqv9
            rw [ev9] at nf bb
            rw [← hgv9] at nf ⊢
            have NI := Lib.hid nf
            have GNI : Hid (w.heap.size + 1 < gv9) := by show _ < _; rw [hgv9]; exact (Array.getElem?_eq_some_iff.1 FT.out).1
            have FT := Lib.hid (row_below FT.out bb)
            have KA := Lib.hid (KA.out.below bb)
            have NS := Lib.hid (row_below NS.out bb)
            have KK := Lib.hid (KK.out.below bb)
            have NO := Lib.hid (row_below NO.out bb)
            have hv9 := (show _ ∧ _ from ⟨hHeld.1.trans (bb.mono hHeld.1.size), row_below hHeld.2 bb⟩)
            clear nf bb hqv9 ev9 hgv9 hHeld
            go_frame
            refine hK.out _ _ hv9 (fun hHeld => ?_)
            clear hK K hv9
            refine held_take (i := 13) (v := (.agg ([nV 1, (.slice (some ⟨gv9, 0, none⟩) 1 1), (.slice (some ⟨gv8, 0, none⟩) 1 1), nV 0]).toArray)) rfl (by kernel_rfl) (by kernel_rfl) (by kernel_rfl) (fun _ _ _ h => h) (yieldsIf_build (by rfl) 32 _ rfl [(0, .int .u32 1), (1, (.slice (some ⟨gv9, 0, none⟩) 1 1)), (2, (.slice (some ⟨gv8, 0, none⟩) 1 1))] (by kernel_rfl) _ (by kernel_rfl)) hHeld ?_
            go_frame
            refine wpAnyH_ready (rs := [14]) (by kernel_rfl) (by simp) (held_cons rfl (fun K hK => ?_) AllReadyH.nil)
            rw [if_pos (by rfl)]
            refine wp_store_whole 32 (.tmp 8) (.tmp 22) rfl (w.heap.size + 1) [nV 0, .slice none 0 0, .slice none 0 0, nV 0] [nV 1, (.slice (some ⟨gv9, 0, none⟩) 1 1), (.slice (some ⟨gv8, 0, none⟩) 1 1), nV 0] 32 rfl rfl (rfl) FT.out (by kernel_rfl) (by kernel_rfl) ?_
            intro v10 q1 q2
            have FT := Lib.hid q1
            have KK := Lib.hid (KeyAt.off KK.out (fun sp n cap hv _ hq => by cases hv; have e : w.heap.size + 1 = gk := Option.some.inj hq; have := GK.out; omega) q2)
            have NO := Lib.hid (row_far NO.out q2 (by intro h; have := Option.some.inj h; have := GNO.out; omega))
            have NI := Lib.hid (row_far NI.out q2 (by intro h; have := Option.some.inj h; have := GNI.out; omega))
            have hv10 := (show _ ∧ _ from ⟨hHeld.1.grown q2 hHeld.1.size (fun k hk => by cases hk; omega), row_far hHeld.2 q2 (by intro h; have := Option.some.inj h; omega)⟩)
            clear q1 q2 hHeld
            go_frame
            refine hK.out _ _ hv10 (fun hHeld => ?_)
            clear hK K hv10
            refine wpAnyH_done (by kernel_rfl) ?_ _
            have BZ := Lib.hid hHeld.1
            clear hHeld
            go_wp2_with fail
            refine bodyPost_ret (results_cell_row rfl _ _ (w.heap.size + 1) 32 ([nV 1, (.slice (some ⟨gv9, 0, none⟩) 1 1), (.slice (some ⟨gv8, 0, none⟩) 1 1), nV 0]).toArray (0, 0) _ rfl FT.out Tryd.underlying32 rfl (by kernel_rfl)) rfl ?_
            exact ⟨_, rfl, fun W hW => ⟨⟨by show 1 ≤ _; omega, by show 0 ≤ _; omega⟩, _, _, rfl, insAt_one (row_kps NI.out hW (by have := GNI.out; show _ ≤ _; omega)) (x := firstX h32 ex) (firstX_ok ex H32.out) (KK.out.kps (fun sp n cap hv _ => by cases hv; have := GK.out; show w.heap.size ≤ gk; omega) hW), outsAt_one (row_kps NO.out hW (by have := GNO.out; show _ ≤ _; omega)) (y := ⟨val, lock⟩) ⟨LK.out, VB.out⟩⟩, BZ.out⟩
        · skip
          rw [if_pos (by rfl)]
          refine wp_slice_one 30 44 (.tmp 20) rfl (outL ⟨val, lock⟩) rfl Tryd.underlying30 i3 _ hi3 hv0 (by rw [hv1, LO.out]) (by rw [LO.out]; omega) (by rw [LO.out]; omega) ?_
          have nf := heap_alloc_new v3 (.cells (outL ⟨val, lock⟩).toArray 44 (0, 0))
          have bb := (Below.refl v3.heap.size v3).alloc (Nat.le_refl _) (.cells (outL ⟨val, lock⟩).toArray 44 (0, 0))
          obtain ⟨gv11, hgv11⟩ : ∃ g, g = v3.heap.size := ⟨_, rfl⟩
          generalize hqv11 : World.alloc _ _ = v11
          have ev11 : v3.alloc (.cells (outL ⟨val, lock⟩).toArray 44 (0, 0)) = v11 := hqv11
          rw [ev11] at nf bb
          rw [← hgv11] at nf ⊢
          have NO := Lib.hid nf
          have GNO : Hid (w.heap.size + 1 < gv11) := by show _ < _; rw [hgv11]; exact (Array.getElem?_eq_some_iff.1 FT.out).1
          have FT := Lib.hid (row_below FT.out bb)
          have KA := Lib.hid (KA.out.below bb)
          have NS := Lib.hid (row_below NS.out bb)
          have hv11 := (show _ ∧ _ from ⟨hHeld.1.trans (bb.mono hHeld.1.size), row_below hHeld.2 bb⟩)
          clear nf bb hqv11 ev11 hgv11 hHeld
          go_frame
          refine hK.out _ _ hv11 (fun hHeld => ?_)
          clear hK K hv11
          refine wpAnyH_ready (rs := [6]) (by kernel_rfl) (by simp) (held_cons rfl (fun K hK => ?_) AllReadyH.nil)
          go_simp
          refine (concat_any ([] ++ leB h32 4) ex _ _ gv3 _ (by rw [cell_of_row _ _ _ _ _ _ NS.out]; rfl) (by rw [cell_of_row _ _ _ _ _ _ NS.out]; rfl) KA.out (SE.out.below hHeld.1) (by simp [leB_length]) (by simp [leB_length]) LE.out).mono ?_
          rintro e v12 ⟨gk, nk, ck, rfl, hgk, kk, bb⟩
          have GK : Hid (w.heap.size + 1 < gk) := Nat.lt_of_lt_of_le (Array.getElem?_eq_some_iff.1 FT.out).1 hgk
          have KK := Lib.hid kk
          clear kk hgk
          have FT := Lib.hid (row_below FT.out bb)
          have KA := Lib.hid (KA.out.below bb)
          have NS := Lib.hid (row_below NS.out bb)
          have NO := Lib.hid (row_below NO.out bb)
          have hv12 := (show _ ∧ _ from ⟨hHeld.1.trans (bb.mono hHeld.1.size), row_below hHeld.2 bb⟩)
          clear bb hHeld
          go_wp2_with fail
          refine hK.out _ _ hv12 (fun hHeld => ?_)
          clear hK K hv12
          refine held_take (i := 7) (v := (.agg (inL (firstX h32 ex) (.slice (some ⟨gk, 0, none⟩) nk ck)).toArray)) rfl (by kernel_rfl) (by kernel_rfl) (by kernel_rfl) (fun _ _ _ h => h) (yieldsIf_build (by rfl) 42 _ rfl [(0, .agg nullL.toArray), (1, .slice (some ⟨gk, 0, none⟩) nk ck), (2, .int .u32 4294967295)] (by kernel_rfl) _ (by kernel_rfl)) hHeld ?_
          go_frame
          refine wpAnyH_ready (rs := [8]) (by kernel_rfl) (by simp) (held_cons rfl (fun K hK => ?_) AllReadyH.nil)
          rw [if_pos (by rfl)]
          refine wp_slice_one 29 42 (.tmp 16) rfl (inL (firstX h32 ex) (.slice (some ⟨gk, 0, none⟩) nk ck)) rfl Tryd.underlying29 i2 _ hi2 hx0 (by rw [hx1]; rfl) (by show 0 < 35; omega) (by show 35 ≤ _; omega) ?_
          have nf := heap_alloc_new v12 (.cells (inL (firstX h32 ex) (.slice (some ⟨gk, 0, none⟩) nk ck)).toArray 42 (0, 0))
          have bb := (Below.refl v12.heap.size v12).alloc (Nat.le_refl _) (.cells (inL (firstX h32 ex) (.slice (some ⟨gk, 0, none⟩) nk ck)).toArray 42 (0, 0))
          obtain ⟨gv13, hgv13⟩ : ∃ g, g = v12.heap.size := ⟨_, rfl⟩
          generalize hqv13 : World.alloc _ _ = v13
          have ev13 : v12.alloc (.cells (inL (firstX h32 ex) (.slice (some ⟨gk, 0, none⟩) nk ck)).toArray 42 (0, 0)) = v13 := hqv13
          rw [ev13] at nf bb
          rw [← hgv13] at nf ⊢
          have NI := Lib.hid nf
          have GNI : Hid (w.heap.size + 1 < gv13) := by show _ < _; rw [hgv13]; exact (Array.getElem?_eq_some_iff.1 FT.out).1
          have FT := Lib.hid (row_below FT.out bb)
          have KA := Lib.hid (KA.out.below bb)
          have NS := Lib.hid (row_below NS.out bb)
          have NO := Lib.hid (row_below NO.out bb)
          have KK := Lib.hid (KK.out.below bb)
          have hv13 := (show _ ∧ _ from ⟨hHeld.1.trans (bb.mono hHeld.1.size), row_below hHeld.2 bb⟩)
          clear nf bb hqv13 ev13 hgv13 hHeld
          go_frame
          refine hK.out _ _ hv13 (fun hHeld => ?_)
          clear hK K hv13
          refine held_take (i := 13) (v := (.agg ([nV 1, (.slice (some ⟨gv13, 0, none⟩) 1 1), (.slice (some ⟨gv11, 0, none⟩) 1 1), nV 0]).toArray)) rfl (by kernel_rfl) (by kernel_rfl) (by kernel_rfl) (fun _ _ _ h => h) (yieldsIf_build (by rfl) 32 _ rfl [(0, .int .u32 1), (1, (.slice (some ⟨gv13, 0, none⟩) 1 1)), (2, (.slice (some ⟨gv11, 0, none⟩) 1 1))] (by kernel_rfl) _ (by kernel_rfl)) hHeld ?_
          go_frame
          refine wpAnyH_ready (rs := [14]) (by kernel_rfl) (by simp) (held_cons rfl (fun K hK => ?_) AllReadyH.nil)
          rw [if_pos (by rfl)]
          refine wp_store_whole 32 (.tmp 8) (.tmp 22) rfl (w.heap.size + 1) [nV 0, .slice none 0 0, .slice none 0 0, nV 0] [nV 1, (.slice (some ⟨gv13, 0, none⟩) 1 1), (.slice (some ⟨gv11, 0, none⟩) 1 1), nV 0] 32 rfl rfl (rfl) FT.out (by kernel_rfl) (by kernel_rfl) ?_
          intro v14 q1 q2
          have FT := Lib.hid q1
          have NO := Lib.hid (row_far NO.out q2 (by intro h; have := Option.some.inj h; have := GNO.out; omega))
          have KK := Lib.hid (KeyAt.off KK.out (fun sp n cap hv _ hq => by cases hv; have e : w.heap.size + 1 = gk := Option.some.inj hq; have := GK.out; omega) q2)
          have NI := Lib.hid (row_far NI.out q2 (by intro h; have := Option.some.inj h; have := GNI.out; omega))
          have hv14 := (show _ ∧ _ from ⟨hHeld.1.grown q2 hHeld.1.size (fun k hk => by cases hk; omega), row_far hHeld.2 q2 (by intro h; have := Option.some.inj h; omega)⟩)
          clear q1 q2 hHeld
          go_frame
          refine hK.out _ _ hv14 (fun hHeld => ?_)
          clear hK K hv14
          refine wpAnyH_done (by kernel_rfl) ?_ _
          have BZ := Lib.hid hHeld.1
          clear hHeld
          go_wp2_with fail
          refine bodyPost_ret (results_cell_row rfl _ _ (w.heap.size + 1) 32 ([nV 1, (.slice (some ⟨gv13, 0, none⟩) 1 1), (.slice (some ⟨gv11, 0, none⟩) 1 1), nV 0]).toArray (0, 0) _ rfl FT.out Tryd.underlying32 rfl (by kernel_rfl)) rfl ?_
          exact ⟨_, rfl, fun W hW => ⟨⟨by show 1 ≤ _; omega, by show 0 ≤ _; omega⟩, _, _, rfl, insAt_one (row_kps NI.out hW (by have := GNI.out; show _ ≤ _; omega)) (x := firstX h32 ex) (firstX_ok ex H32.out) (KK.out.kps (fun sp n cap hv _ => by cases hv; have := GK.out; show w.heap.size ≤ gk; omega) hW), outsAt_one (row_kps NO.out hW (by have := GNO.out; show _ ≤ _; omega)) (y := ⟨val, lock⟩) ⟨LK.out, VB.out⟩⟩, BZ.out⟩
      · skip
        rw [if_pos (by rfl)]
        refine wp_slice_one 30 44 (.tmp 20) rfl (outL ⟨val, lock⟩) rfl Tryd.underlying30 i3 _ hi3 hv0 (by rw [hv1, LO.out]) (by rw [LO.out]; omega) (by rw [LO.out]; omega) ?_
        have nf := heap_alloc_new v2 (.cells (outL ⟨val, lock⟩).toArray 44 (0, 0))
        have bb := (Below.refl v2.heap.size v2).alloc (Nat.le_refl _) (.cells (outL ⟨val, lock⟩).toArray 44 (0, 0))
        obtain ⟨gv15, hgv15⟩ : ∃ g, g = v2.heap.size := ⟨_, rfl⟩
        generalize hqv15 : World.alloc _ _ = v15
        have ev15 : v2.alloc (.cells (outL ⟨val, lock⟩).toArray 44 (0, 0)) = v15 := hqv15
        rw [ev15] at nf bb
        rw [← hgv15] at nf ⊢
        have NO := Lib.hid nf
        have GNO : Hid (w.heap.size + 1 < gv15) := by show _ < _; rw [hgv15]; exact (Array.getElem?_eq_some_iff.1 FT.out).1
        have FT := Lib.hid (row_below FT.out bb)
        have KA := Lib.hid (KA.out.below bb)
        have hv15 := (show _ ∧ _ from ⟨hHeld.1.trans (bb.mono hHeld.1.size), row_below hHeld.2 bb⟩)
        clear nf bb hqv15 ev15 hgv15 hHeld
        go_frame
        refine hK.out _ _ hv15 (fun hHeld => ?_)
        clear hK K hv15
        refine wpAnyH_ready (rs := [5]) (by kernel_rfl) (by simp) (held_cons rfl (fun K hK => ?_) AllReadyH.nil)
        rw [if_pos (by rfl)]
        refine wp_buildSlice 72 40 2 _ rfl #[.slice s4 n4 c4, .slice se ne ce] i1 (.slice none 0 0) Tryd.underlying72 hi1 hy0 (by rw [hy1]; omega) (by rw [hy1]; omega) (by rw [hy1]; kernel_rfl) ?_
        have nf := heap_alloc_new v15 (.cells #[.slice s4 n4 c4, .slice se ne ce] 40 (0, 0))
        have bb := (Below.refl v15.heap.size v15).alloc (Nat.le_refl _) (.cells #[.slice s4 n4 c4, .slice se ne ce] 40 (0, 0))
        obtain ⟨gv16, hgv16⟩ : ∃ g, g = v15.heap.size := ⟨_, rfl⟩
        generalize hqv16 : World.alloc _ _ = v16
        have ev16 : v15.alloc (.cells #[.slice s4 n4 c4, .slice se ne ce] 40 (0, 0)) = v16 := hqv16
        rw [ev16] at nf bb
        rw [← hgv16] at nf ⊢
        have NS := Lib.hid nf
        have FT := Lib.hid (row_below FT.out bb)
        have KA := Lib.hid (KA.out.below bb)
        have NO := Lib.hid (row_below NO.out bb)
        have hv16 := (show _ ∧ _ from ⟨hHeld.1.trans (bb.mono hHeld.1.size), row_below hHeld.2 bb⟩)
        clear nf bb hqv16 ev16 hgv16 hHeld
        go_frame
        refine hK.out _ _ hv16 (fun hHeld => ?_)
        clear hK K hv16
        refine wpAnyH_ready (rs := [6]) (by kernel_rfl) (by simp) (held_cons rfl (fun K hK => ?_) AllReadyH.nil)
        go_simp
        refine (concat_any ([] ++ leB h32 4) ex _ _ gv16 _ (by rw [cell_of_row _ _ _ _ _ _ NS.out]; rfl) (by rw [cell_of_row _ _ _ _ _ _ NS.out]; rfl) KA.out (SE.out.below hHeld.1) (by simp [leB_length]) (by simp [leB_length]) LE.out).mono ?_
        rintro e v17 ⟨gk, nk, ck, rfl, hgk, kk, bb⟩
        have GK : Hid (w.heap.size + 1 < gk) := Nat.lt_of_lt_of_le (Array.getElem?_eq_some_iff.1 FT.out).1 hgk
        have KK := Lib.hid kk
        clear kk hgk
        have FT := Lib.hid (row_below FT.out bb)
        have KA := Lib.hid (KA.out.below bb)
        have NO := Lib.hid (row_below NO.out bb)
        have NS := Lib.hid (row_below NS.out bb)
        have hv17 := (show _ ∧ _ from ⟨hHeld.1.trans (bb.mono hHeld.1.size), row_below hHeld.2 bb⟩)
        clear bb hHeld
        go_wp2_with fail
        refine hK.out _ _ hv17 (fun hHeld => ?_)
        clear hK K hv17
        refine held_take (i := 7) (v := (.agg (inL (firstX h32 ex) (.slice (some ⟨gk, 0, none⟩) nk ck)).toArray)) rfl (by kernel_rfl) (by kernel_rfl) (by kernel_rfl) (fun _ _ _ h => h) (yieldsIf_build (by rfl) 42 _ rfl [(0, .agg nullL.toArray), (1, .slice (some ⟨gk, 0, none⟩) nk ck), (2, .int .u32 4294967295)] (by kernel_rfl) _ (by kernel_rfl)) hHeld ?_
        go_frame
        refine wpAnyH_ready (rs := [8]) (by kernel_rfl) (by simp) (held_cons rfl (fun K hK => ?_) AllReadyH.nil)
        rw [if_pos (by rfl)]
        refine wp_slice_one 29 42 (.tmp 16) rfl (inL (firstX h32 ex) (.slice (some ⟨gk, 0, none⟩) nk ck)) rfl Tryd.underlying29 i2 _ hi2 hx0 (by rw [hx1]; rfl) (by show 0 < 35; omega) (by show 35 ≤ _; omega) ?_
        have nf := heap_alloc_new v17 (.cells (inL (firstX h32 ex) (.slice (some ⟨gk, 0, none⟩) nk ck)).toArray 42 (0, 0))
        have bb := (Below.refl v17.heap.size v17).alloc (Nat.le_refl _) (.cells (inL (firstX h32 ex) (.slice (some ⟨gk, 0, none⟩) nk ck)).toArray 42 (0, 0))
        obtain ⟨gv18, hgv18⟩ : ∃ g, g = v17.heap.size := ⟨_, rfl⟩
        generalize hqv18 : World.alloc _ _ = v18
        have ev18 : v17.alloc (.cells (inL (firstX h32 ex) (.slice (some ⟨gk, 0, none⟩) nk ck)).toArray 42 (0, 0)) = v18 := hqv18
        rw [ev18] at nf bb
        rw [← hgv18] at nf ⊢
        have NI := Lib.hid nf
        have GNI : Hid (w.heap.size + 1 < gv18) := by show _ < _; rw [hgv18]; exact (Array.getElem?_eq_some_iff.1 FT.out).1
        have FT := Lib.hid (row_below FT.out bb)
        have KA := Lib.hid (KA.out.below bb)
        have NO := Lib.hid (row_below NO.out bb)
        have NS := Lib.hid (row_below NS.out bb)
        have KK := Lib.hid (KK.out.below bb)
        have hv18 := (show _ ∧ _ from ⟨hHeld.1.trans (bb.mono hHeld.1.size), row_below hHeld.2 bb⟩)
        clear nf bb hqv18 ev18 hgv18 hHeld
        go_frame
        refine hK.out _ _ hv18 (fun hHeld => ?_)
        clear hK K hv18
        refine held_take (i := 13) (v := (.agg ([nV 1, (.slice (some ⟨gv18, 0, none⟩) 1 1), (.slice (some ⟨gv15, 0, none⟩) 1 1), nV 0]).toArray)) rfl (by kernel_rfl) (by kernel_rfl) (by kernel_rfl) (fun _ _ _ h => h) (yieldsIf_build (by rfl) 32 _ rfl [(0, .int .u32 1), (1, (.slice (some ⟨gv18, 0, none⟩) 1 1)), (2, (.slice (some ⟨gv15, 0, none⟩) 1 1))] (by kernel_rfl) _ (by kernel_rfl)) hHeld ?_
        go_frame
        refine wpAnyH_ready (rs := [14]) (by kernel_rfl) (by simp) (held_cons rfl (fun K hK => ?_) AllReadyH.nil)
        rw [if_pos (by rfl)]
        refine wp_store_whole 32 (.tmp 8) (.tmp 22) rfl (w.heap.size + 1) [nV 0, .slice none 0 0, .slice none 0 0, nV 0] [nV 1, (.slice (some ⟨gv18, 0, none⟩) 1 1), (.slice (some ⟨gv15, 0, none⟩) 1 1), nV 0] 32 rfl rfl (rfl) FT.out (by kernel_rfl) (by kernel_rfl) ?_
        intro v19 q1 q2
        have FT := Lib.hid q1
        have NO := Lib.hid (row_far NO.out q2 (by intro h; have := Option.some.inj h; have := GNO.out; omega))
        have KK := Lib.hid (KeyAt.off KK.out (fun sp n cap hv _ hq => by cases hv; have e : w.heap.size + 1 = gk := Option.some.inj hq; have := GK.out; omega) q2)
        have NI := Lib.hid (row_far NI.out q2 (by intro h; have := Option.some.inj h; have := GNI.out; omega))
        have hv19 := (show _ ∧ _ from ⟨hHeld.1.grown q2 hHeld.1.size (fun k hk => by cases hk; omega), row_far hHeld.2 q2 (by intro h; have := Option.some.inj h; omega)⟩)
        clear q1 q2 hHeld
        go_frame
        refine hK.out _ _ hv19 (fun hHeld => ?_)
        clear hK K hv19
        refine wpAnyH_done (by kernel_rfl) ?_ _
        have BZ := Lib.hid hHeld.1
        clear hHeld
        go_wp2_with fail
        refine bodyPost_ret (results_cell_row rfl _ _ (w.heap.size + 1) 32 ([nV 1, (.slice (some ⟨gv18, 0, none⟩) 1 1), (.slice (some ⟨gv15, 0, none⟩) 1 1), nV 0]).toArray (0, 0) _ rfl FT.out Tryd.underlying32 rfl (by kernel_rfl)) rfl ?_
        exact ⟨_, rfl, fun W hW => ⟨⟨by show 1 ≤ _; omega, by show 0 ≤ _; omega⟩, _, _, rfl, insAt_one (row_kps NI.out hW (by have := GNI.out; show _ ≤ _; omega)) (x := firstX h32 ex) (firstX_ok ex H32.out) (KK.out.kps (fun sp n cap hv _ => by cases hv; have := GK.out; show w.heap.size ≤ gk; omega) hW), outsAt_one (row_kps NO.out hW (by have := GNO.out; show _ ≤ _; omega)) (y := ⟨val, lock⟩) ⟨LK.out, VB.out⟩⟩, BZ.out⟩
    · skip
      rw [if_pos (by rfl)]
      refine wp_slice_one 30 44 (.tmp 20) rfl (outL ⟨val, lock⟩) rfl Tryd.underlying30 i3 _ hi3 hv0 (by rw [hv1, LO.out]) (by rw [LO.out]; omega) (by rw [LO.out]; omega) ?_
      have nf := heap_alloc_new v1 (.cells (outL ⟨val, lock⟩).toArray 44 (0, 0))
      have bb := (Below.refl v1.heap.size v1).alloc (Nat.le_refl _) (.cells (outL ⟨val, lock⟩).toArray 44 (0, 0))
      obtain ⟨gv20, hgv20⟩ : ∃ g, g = v1.heap.size := ⟨_, rfl⟩
      generalize hqv20 : World.alloc _ _ = v20
      have ev20 : v1.alloc (.cells (outL ⟨val, lock⟩).toArray 44 (0, 0)) = v20 := hqv20
      rw [ev20] at nf bb
      rw [← hgv20] at nf ⊢
      have NO := Lib.hid nf
      have GNO : Hid (w.heap.size + 1 < gv20) := by show _ < _; rw [hgv20]; exact (Array.getElem?_eq_some_iff.1 FT.out).1
      have FT := Lib.hid (row_below FT.out bb)
      have hv20 := (show _ ∧ _ from ⟨hHeld.1.trans (bb.mono hHeld.1.size), row_below hHeld.2 bb⟩)
      clear nf bb hqv20 ev20 hgv20 hHeld
      go_frame
      refine hK.out _ _ hv20 (fun hHeld => ?_)
      clear hK K hv20
      refine wpAnyH_ready (rs := [3]) (by kernel_rfl) (by simp) (held_cons rfl (fun K hK => ?_) AllReadyH.nil)
      go_simp
      refine (four_new [] _ h32 _ (nil_src _) (by simp) H32.out).mono ?_
      rintro e v21 ⟨s4, n4, c4, rfl, hn4, hc4⟩
      have KA := Lib.hid hc4.src
      have bb := hc4.2
      clear hn4 hc4
      have FT := Lib.hid (row_below FT.out bb)
      have NO := Lib.hid (row_below NO.out bb)
      have hv21 := (show _ ∧ _ from ⟨hHeld.1.trans (bb.mono hHeld.1.size), row_below hHeld.2 bb⟩)
      clear bb hHeld
      go_wp2_with fail
      refine hK.out _ _ hv21 (fun hHeld => ?_)
      clear hK K hv21
      refine wpAnyH_ready (rs := [5]) (by kernel_rfl) (by simp) (held_cons rfl (fun K hK => ?_) AllReadyH.nil)
      rw [if_pos (by rfl)]
      refine wp_buildSlice 72 40 2 _ rfl #[.slice s4 n4 c4, .slice se ne ce] i1 (.slice none 0 0) Tryd.underlying72 hi1 hy0 (by rw [hy1]; omega) (by rw [hy1]; omega) (by rw [hy1]; kernel_rfl) ?_
      have nf := heap_alloc_new v21 (.cells #[.slice s4 n4 c4, .slice se ne ce] 40 (0, 0))
      have bb := (Below.refl v21.heap.size v21).alloc (Nat.le_refl _) (.cells #[.slice s4 n4 c4, .slice se ne ce] 40 (0, 0))
      obtain ⟨gv22, hgv22⟩ : ∃ g, g = v21.heap.size := ⟨_, rfl⟩
      generalize hqv22 : World.alloc _ _ = v22
      have ev22 : v21.alloc (.cells #[.slice s4 n4 c4, .slice se ne ce] 40 (0, 0)) = v22 := hqv22
      rw [ev22] at nf bb
      rw [← hgv22] at nf ⊢
      have NS := Lib.hid nf
      have FT := Lib.hid (row_below FT.out bb)
      have NO := Lib.hid (row_below NO.out bb)
      have KA := Lib.hid (KA.out.below bb)
      have hv22 := (show _ ∧ _ from ⟨hHeld.1.trans (bb.mono hHeld.1.size), row_below hHeld.2 bb⟩)
      clear nf bb hqv22 ev22 hgv22 hHeld
      go_frame
      refine hK.out _ _ hv22 (fun hHeld => ?_)
      clear hK K hv22
      refine wpAnyH_ready (rs := [6]) (by kernel_rfl) (by simp) (held_cons rfl (fun K hK => ?_) AllReadyH.nil)
      go_simp
      refine (concat_any ([] ++ leB h32 4) ex _ _ gv22 _ (by rw [cell_of_row _ _ _ _ _ _ NS.out]; rfl) (by rw [cell_of_row _ _ _ _ _ _ NS.out]; rfl) KA.out (SE.out.below hHeld.1) (by simp [leB_length]) (by simp [leB_length]) LE.out).mono ?_
      rintro e v23 ⟨gk, nk, ck, rfl, hgk, kk, bb⟩
      have GK : Hid (w.heap.size + 1 < gk) := Nat.lt_of_lt_of_le (Array.getElem?_eq_some_iff.1 FT.out).1 hgk
      have KK := Lib.hid kk
      clear kk hgk
      have FT := Lib.hid (row_below FT.out bb)
      have NO := Lib.hid (row_below NO.out bb)
      have KA := Lib.hid (KA.out.below bb)
      have NS := Lib.hid (row_below NS.out bb)
      have hv23 := (show _ ∧ _ from ⟨hHeld.1.trans (bb.mono hHeld.1.size), row_below hHeld.2 bb⟩)
      clear bb hHeld
      go_wp2_with fail
      refine hK.out _ _ hv23 (fun hHeld => ?_)
      clear hK K hv23
      refine held_take (i := 7) (v := (.agg (inL (firstX h32 ex) (.slice (some ⟨gk, 0, none⟩) nk ck)).toArray)) rfl (by kernel_rfl) (by kernel_rfl) (by kernel_rfl) (fun _ _ _ h => h) (yieldsIf_build (by rfl) 42 _ rfl [(0, .agg nullL.toArray), (1, .slice (some ⟨gk, 0, none⟩) nk ck), (2, .int .u32 4294967295)] (by kernel_rfl) _ (by kernel_rfl)) hHeld ?_
      go_frame
      refine wpAnyH_ready (rs := [8]) (by kernel_rfl) (by simp) (held_cons rfl (fun K hK => ?_) AllReadyH.nil)
      rw [if_pos (by rfl)]
      refine wp_slice_one 29 42 (.tmp 16) rfl (inL (firstX h32 ex) (.slice (some ⟨gk, 0, none⟩) nk ck)) rfl Tryd.underlying29 i2 _ hi2 hx0 (by rw [hx1]; rfl) (by show 0 < 35; omega) (by show 35 ≤ _; omega) ?_
      have nf := heap_alloc_new v23 (.cells (inL (firstX h32 ex) (.slice (some ⟨gk, 0, none⟩) nk ck)).toArray 42 (0, 0))
      have bb := (Below.refl v23.heap.size v23).alloc (Nat.le_refl _) (.cells (inL (firstX h32 ex) (.slice (some ⟨gk, 0, none⟩) nk ck)).toArray 42 (0, 0))
      obtain ⟨gv24, hgv24⟩ : ∃ g, g = v23.heap.size := ⟨_, rfl⟩
      generalize hqv24 : World.alloc _ _ = v24
      have ev24 : v23.alloc (.cells (inL (firstX h32 ex) (.slice (some ⟨gk, 0, none⟩) nk ck)).toArray 42 (0, 0)) = v24 := hqv24
      rw [ev24] at nf bb
      rw [← hgv24] at nf ⊢
      have NI := Lib.hid nf
      have GNI : Hid (w.heap.size + 1 < gv24) := by show _ < _; rw [hgv24]; exact (Array.getElem?_eq_some_iff.1 FT.out).1
      have FT := Lib.hid (row_below FT.out bb)
      have NO := Lib.hid (row_below NO.out bb)
      have KA := Lib.hid (KA.out.below bb)
      have NS := Lib.hid (row_below NS.out bb)
      have KK := Lib.hid (KK.out.below bb)
      have hv24 := (show _ ∧ _ from ⟨hHeld.1.trans (bb.mono hHeld.1.size), row_below hHeld.2 bb⟩)
      clear nf bb hqv24 ev24 hgv24 hHeld
      go_frame
      refine hK.out _ _ hv24 (fun hHeld => ?_)
      clear hK K hv24
      refine held_take (i := 13) (v := (.agg ([nV 1, (.slice (some ⟨gv24, 0, none⟩) 1 1), (.slice (some ⟨gv20, 0, none⟩) 1 1), nV 0]).toArray)) rfl (by kernel_rfl) (by kernel_rfl) (by kernel_rfl) (fun _ _ _ h => h) (yieldsIf_build (by rfl) 32 _ rfl [(0, .int .u32 1), (1, (.slice (some ⟨gv24, 0, none⟩) 1 1)), (2, (.slice (some ⟨gv20, 0, none⟩) 1 1))] (by kernel_rfl) _ (by kernel_rfl)) hHeld ?_
      go_frame
      refine wpAnyH_ready (rs := [14]) (by kernel_rfl) (by simp) (held_cons rfl (fun K hK => ?_) AllReadyH.nil)
      rw [if_pos (by rfl)]
      refine wp_store_whole 32 (.tmp 8) (.tmp 22) rfl (w.heap.size + 1) [nV 0, .slice none 0 0, .slice none 0 0, nV 0] [nV 1, (.slice (some ⟨gv24, 0, none⟩) 1 1), (.slice (some ⟨gv20, 0, none⟩) 1 1), nV 0] 32 rfl rfl (rfl) FT.out (by kernel_rfl) (by kernel_rfl) ?_
      intro v25 q1 q2
      have FT := Lib.hid q1
      have NO := Lib.hid (row_far NO.out q2 (by intro h; have := Option.some.inj h; have := GNO.out; omega))
      have KK := Lib.hid (KeyAt.off KK.out (fun sp n cap hv _ hq => by cases hv; have e : w.heap.size + 1 = gk := Option.some.inj hq; have := GK.out; omega) q2)
      have NI := Lib.hid (row_far NI.out q2 (by intro h; have := Option.some.inj h; have := GNI.out; omega))
      have hv25 := (show _ ∧ _ from ⟨hHeld.1.grown q2 hHeld.1.size (fun k hk => by cases hk; omega), row_far hHeld.2 q2 (by intro h; have := Option.some.inj h; omega)⟩)
      clear q1 q2 hHeld
      go_frame
      refine hK.out _ _ hv25 (fun hHeld => ?_)
      clear hK K hv25
      refine wpAnyH_done (by kernel_rfl) ?_ _
      have BZ := Lib.hid hHeld.1
      clear hHeld
      go_wp2_with fail
      refine bodyPost_ret (results_cell_row rfl _ _ (w.heap.size + 1) 32 ([nV 1, (.slice (some ⟨gv24, 0, none⟩) 1 1), (.slice (some ⟨gv20, 0, none⟩) 1 1), nV 0]).toArray (0, 0) _ rfl FT.out Tryd.underlying32 rfl (by kernel_rfl)) rfl ?_
      exact ⟨_, rfl, fun W hW => ⟨⟨by show 1 ≤ _; omega, by show 0 ≤ _; omega⟩, _, _, rfl, insAt_one (row_kps NI.out hW (by have := GNI.out; show _ ≤ _; omega)) (x := firstX h32 ex) (firstX_ok ex H32.out) (KK.out.kps (fun sp n cap hv _ => by cases hv; have := GK.out; show w.heap.size ≤ gk; omega) hW), outsAt_one (row_kps NO.out hW (by have := GNO.out; show _ ≤ _; omega)) (y := ⟨val, lock⟩) ⟨LK.out, VB.out⟩⟩, BZ.out⟩
  · skip
    rw [if_pos (by rfl)]
    refine wp_slice_one 30 44 (.tmp 20) rfl (outL ⟨val, lock⟩) rfl Tryd.underlying30 i3 _ hi3 hv0 (by rw [hv1, LO.out]) (by rw [LO.out]; omega) (by rw [LO.out]; omega) ?_
    have nf := heap_alloc_new wd (.cells (outL ⟨val, lock⟩).toArray 44 (0, 0))
    have bb := (Below.refl wd.heap.size wd).alloc (Nat.le_refl _) (.cells (outL ⟨val, lock⟩).toArray 44 (0, 0))
    obtain ⟨gv26, hgv26⟩ : ∃ g, g = wd.heap.size := ⟨_, rfl⟩
    generalize hqv26 : World.alloc _ _ = v26
    have ev26 : wd.alloc (.cells (outL ⟨val, lock⟩).toArray 44 (0, 0)) = v26 := hqv26
    rw [ev26] at nf bb
    rw [← hgv26] at nf ⊢
    have NO := Lib.hid nf
    have GNO : Hid (w.heap.size + 1 < gv26) := by show _ < _; rw [hgv26]; exact (Array.getElem?_eq_some_iff.1 FT.out).1
    have FT := Lib.hid (row_below FT.out bb)
    have hv26 := (show _ ∧ _ from ⟨hHeld.1.trans (bb.mono hHeld.1.size), row_below hHeld.2 bb⟩)
    clear nf bb hqv26 ev26 hgv26 hHeld
    go_frame
    refine hK.out _ _ hv26 (fun hHeld => ?_)
    clear hK K hv26
    refine wpAnyH_ready (rs := [0]) (by kernel_rfl) (by simp) (held_cons rfl (fun K hK => ?_) AllReadyH.nil)
    go_simp
    refine (null_any _).mono ?_
    rintro e v27 ⟨rfl, bb⟩
    have FT := Lib.hid (row_below FT.out bb)
    have NO := Lib.hid (row_below NO.out bb)
    have hv27 := (show _ ∧ _ from ⟨hHeld.1.trans (bb.mono hHeld.1.size), row_below hHeld.2 bb⟩)
    clear bb hHeld
    go_wp2_with fail
    refine hK.out _ _ hv27 (fun hHeld => ?_)
    clear hK K hv27
    refine wpAnyH_ready (rs := [3]) (by kernel_rfl) (by simp) (held_cons rfl (fun K hK => ?_) AllReadyH.nil)
    go_simp
    refine (four_new [] _ h32 _ (nil_src _) (by simp) H32.out).mono ?_
    rintro e v28 ⟨s4, n4, c4, rfl, hn4, hc4⟩
    have KA := Lib.hid hc4.src
    have bb := hc4.2
    clear hn4 hc4
    have FT := Lib.hid (row_below FT.out bb)
    have NO := Lib.hid (row_below NO.out bb)
    have hv28 := (show _ ∧ _ from ⟨hHeld.1.trans (bb.mono hHeld.1.size), row_below hHeld.2 bb⟩)
    clear bb hHeld
    go_wp2_with fail
    refine hK.out _ _ hv28 (fun hHeld => ?_)
    clear hK K hv28
    refine wpAnyH_ready (rs := [5]) (by kernel_rfl) (by simp) (held_cons rfl (fun K hK => ?_) AllReadyH.nil)
    rw [if_pos (by rfl)]
    refine wp_buildSlice 72 40 2 _ rfl #[.slice s4 n4 c4, .slice se ne ce] i1 (.slice none 0 0) Tryd.underlying72 hi1 hy0 (by rw [hy1]; omega) (by rw [hy1]; omega) (by rw [hy1]; kernel_rfl) ?_
    have nf := heap_alloc_new v28 (.cells #[.slice s4 n4 c4, .slice se ne ce] 40 (0, 0))
    have bb := (Below.refl v28.heap.size v28).alloc (Nat.le_refl _) (.cells #[.slice s4 n4 c4, .slice se ne ce] 40 (0, 0))
    obtain ⟨gv29, hgv29⟩ : ∃ g, g = v28.heap.size := ⟨_, rfl⟩
    generalize hqv29 : World.alloc _ _ = v29
    have ev29 : v28.alloc (.cells #[.slice s4 n4 c4, .slice se ne ce] 40 (0, 0)) = v29 := hqv29
    rw [ev29] at nf bb
    rw [← hgv29] at nf ⊢
    have NS := Lib.hid nf
    have FT := Lib.hid (row_below FT.out bb)
    have NO := Lib.hid (row_below NO.out bb)
    have KA := Lib.hid (KA.out.below bb)
    have hv29 := (show _ ∧ _ from ⟨hHeld.1.trans (bb.mono hHeld.1.size), row_below hHeld.2 bb⟩)
    clear nf bb hqv29 ev29 hgv29 hHeld
    go_frame
    refine hK.out _ _ hv29 (fun hHeld => ?_)
    clear hK K hv29
    refine wpAnyH_ready (rs := [6]) (by kernel_rfl) (by simp) (held_cons rfl (fun K hK => ?_) AllReadyH.nil)
    go_simp
    refine (concat_any ([] ++ leB h32 4) ex _ _ gv29 _ (by rw [cell_of_row _ _ _ _ _ _ NS.out]; rfl) (by rw [cell_of_row _ _ _ _ _ _ NS.out]; rfl) KA.out (SE.out.below hHeld.1) (by simp [leB_length]) (by simp [leB_length]) LE.out).mono ?_
    rintro e v30 ⟨gk, nk, ck, rfl, hgk, kk, bb⟩
    have GK : Hid (w.heap.size + 1 < gk) := Nat.lt_of_lt_of_le (Array.getElem?_eq_some_iff.1 FT.out).1 hgk
    have KK := Lib.hid kk
    clear kk hgk
    have FT := Lib.hid (row_below FT.out bb)
    have NO := Lib.hid (row_below NO.out bb)
    have KA := Lib.hid (KA.out.below bb)
    have NS := Lib.hid (row_below NS.out bb)
    have hv30 := (show _ ∧ _ from ⟨hHeld.1.trans (bb.mono hHeld.1.size), row_below hHeld.2 bb⟩)
    clear bb hHeld
    go_wp2_with fail
    refine hK.out _ _ hv30 (fun hHeld => ?_)
    clear hK K hv30
    refine held_take (i := 7) (v := (.agg (inL (firstX h32 ex) (.slice (some ⟨gk, 0, none⟩) nk ck)).toArray)) rfl (by kernel_rfl) (by kernel_rfl) (by kernel_rfl) (fun _ _ _ h => h) (yieldsIf_build (by rfl) 42 _ rfl [(0, .agg nullL.toArray), (1, .slice (some ⟨gk, 0, none⟩) nk ck), (2, .int .u32 4294967295)] (by kernel_rfl) _ (by kernel_rfl)) hHeld ?_
    go_frame
    refine wpAnyH_ready (rs := [8]) (by kernel_rfl) (by simp) (held_cons rfl (fun K hK => ?_) AllReadyH.nil)
    rw [if_pos (by rfl)]
    refine wp_slice_one 29 42 (.tmp 16) rfl (inL (firstX h32 ex) (.slice (some ⟨gk, 0, none⟩) nk ck)) rfl Tryd.underlying29 i2 _ hi2 hx0 (by rw [hx1]; rfl) (by show 0 < 35; omega) (by show 35 ≤ _; omega) ?_
    have nf := heap_alloc_new v30 (.cells (inL (firstX h32 ex) (.slice (some ⟨gk, 0, none⟩) nk ck)).toArray 42 (0, 0))
    have bb := (Below.refl v30.heap.size v30).alloc (Nat.le_refl _) (.cells (inL (firstX h32 ex) (.slice (some ⟨gk, 0, none⟩) nk ck)).toArray 42 (0, 0))
    obtain ⟨gv31, hgv31⟩ : ∃ g, g = v30.heap.size := ⟨_, rfl⟩
    generalize hqv31 : World.alloc _ _ = v31
    have ev31 : v30.alloc (.cells (inL (firstX h32 ex) (.slice (some ⟨gk, 0, none⟩) nk ck)).toArray 42 (0, 0)) = v31 := hqv31
    rw [ev31] at nf bb
    rw [← hgv31] at nf ⊢
    have NI := Lib.hid nf
    have GNI : Hid (w.heap.size + 1 < gv31) := by show _ < _; rw [hgv31]; exact (Array.getElem?_eq_some_iff.1 FT.out).1
    have FT := Lib.hid (row_below FT.out bb)
    have NO := Lib.hid (row_below NO.out bb)
    have KA := Lib.hid (KA.out.below bb)
    have NS := Lib.hid (row_below NS.out bb)
    have KK := Lib.hid (KK.out.below bb)
    have hv31 := (show _ ∧ _ from ⟨hHeld.1.trans (bb.mono hHeld.1.size), row_below hHeld.2 bb⟩)
    clear nf bb hqv31 ev31 hgv31 hHeld
    go_frame
    refine hK.out _ _ hv31 (fun hHeld => ?_)
    clear hK K hv31
    refine held_take (i := 13) (v := (.agg ([nV 1, (.slice (some ⟨gv31, 0, none⟩) 1 1), (.slice (some ⟨gv26, 0, none⟩) 1 1), nV 0]).toArray)) rfl (by kernel_rfl) (by kernel_rfl) (by kernel_rfl) (fun _ _ _ h => h) (yieldsIf_build (by rfl) 32 _ rfl [(0, .int .u32 1), (1, (.slice (some ⟨gv31, 0, none⟩) 1 1)), (2, (.slice (some ⟨gv26, 0, none⟩) 1 1))] (by kernel_rfl) _ (by kernel_rfl)) hHeld ?_
    go_frame
    refine wpAnyH_ready (rs := [14]) (by kernel_rfl) (by simp) (held_cons rfl (fun K hK => ?_) AllReadyH.nil)
    rw [if_pos (by rfl)]
    refine wp_store_whole 32 (.tmp 8) (.tmp 22) rfl (w.heap.size + 1) [nV 0, .slice none 0 0, .slice none 0 0, nV 0] [nV 1, (.slice (some ⟨gv31, 0, none⟩) 1 1), (.slice (some ⟨gv26, 0, none⟩) 1 1), nV 0] 32 rfl rfl (rfl) FT.out (by kernel_rfl) (by kernel_rfl) ?_
    intro v32 q1 q2
    have FT := Lib.hid q1
    have NO := Lib.hid (row_far NO.out q2 (by intro h; have := Option.some.inj h; have := GNO.out; omega))
    have KK := Lib.hid (KeyAt.off KK.out (fun sp n cap hv _ hq => by cases hv; have e : w.heap.size + 1 = gk := Option.some.inj hq; have := GK.out; omega) q2)
    have NI := Lib.hid (row_far NI.out q2 (by intro h; have := Option.some.inj h; have := GNI.out; omega))
    have hv32 := (show _ ∧ _ from ⟨hHeld.1.grown q2 hHeld.1.size (fun k hk => by cases hk; omega), row_far hHeld.2 q2 (by intro h; have := Option.some.inj h; omega)⟩)
    clear q1 q2 hHeld
    go_frame
    refine hK.out _ _ hv32 (fun hHeld => ?_)
    clear hK K hv32
    refine wpAnyH_done (by kernel_rfl) ?_ _
    have BZ := Lib.hid hHeld.1
    clear hHeld
    go_wp2_with fail
    refine bodyPost_ret (results_cell_row rfl _ _ (w.heap.size + 1) 32 ([nV 1, (.slice (some ⟨gv31, 0, none⟩) 1 1), (.slice (some ⟨gv26, 0, none⟩) 1 1), nV 0]).toArray (0, 0) _ rfl FT.out Tryd.underlying32 rfl (by kernel_rfl)) rfl ?_
    exact ⟨_, rfl, fun W hW => ⟨⟨by show 1 ≤ _; omega, by show 0 ≤ _; omega⟩, _, _, rfl, insAt_one (row_kps NI.out hW (by have := GNI.out; show _ ≤ _; omega)) (x := firstX h32 ex) (firstX_ok ex H32.out) (KK.out.kps (fun sp n cap hv _ => by cases hv; have := GK.out; show w.heap.size ≤ gk; omega) hW), outsAt_one (row_kps NO.out hW (by have := GNO.out; show _ ≤ _; omega)) (y := ⟨val, lock⟩) ⟨LK.out, VB.out⟩⟩, BZ.out⟩
end Go.Proofs.YtcghbogkplcohaaDoor.Sha

/-
  Plain mathematics of a block's bytes: what was written is read again; cut off it ends too early; longer it is none; what is read has just these bytes. No conditions beyond those that each states.
-/
namespace Go.Proofs.YtcghbogkplcohaaDoor.Sha
open Go Go.RowKit
def txsB (l : List TTx) : List UInt8 := l.flatMap txB
def blkB (x : TBlk) : List UInt8 := hdB x.head ++ putL x.txs.length ++ txsB x.txs
theorem txsB_cons (t : TTx) (l : List TTx) : txsB (t :: l) = txB t ++ txsB l := rfl
theorem txsB_snoc {l : List TTx} {k : Nat} {t : TTx} (h : l[k]? = some t) : txsB (l.take (k + 1)) = txsB (l.take k) ++ txB t := by
  unfold txsB
  rw [List.take_add_one, h, List.flatMap_append]
  simp
theorem txsB_part {l : List TTx} {k : Nat} {t : TTx} (h : l[k]? = some t) : (txsB (l.take k)).length + (txB t).length ≤ (txsB l).length := by
  have e : txsB l = txsB (l.take (k + 1)) ++ txsB (l.drop (k + 1)) := by unfold txsB; rw [← List.flatMap_append, List.take_append_drop]
  rw [e, txsB_snoc h]
  simp only [List.length_append]
  omega
def blkP : Par TBlk := thenP takeHd fun h => thenP (numL 200) fun n => mapP (fun l => ⟨h, l⟩) (manyP takeTx n)
def noBlk : TBlk := ⟨noHd, []⟩
/-- Bytes as a block, or what is amiss. -/
def readBlk (bs : List UInt8) : TBlk × Nat := if (blkP bs 0).2.2 ≠ 0 then (noBlk, (blkP bs 0).2.2) else if (blkP bs 0).2.1 ≠ [] then (noBlk, 2) else ((blkP bs 0).1, 0)
/-- A reader that answers z once an error is met. -/
def noErr {α : Type} (z : α) (p : Par α) : Par α := fun bs c => if (p bs c).2.2 = 0 then p bs c else (z, (p bs c).2)
section
variable {α : Type} {z a : α} {p : Par α} {x : List UInt8}
theorem stay_noErr (h : Stay p) : Stay (noErr z p) := fun bs c hc => by
  have e := h bs c hc
  unfold noErr
  rw [if_neg (by rw [e]; exact hc)]
  exact e
theorem good_noErr (h : Good p a x) : Good (noErr z p) a x := by
  refine ⟨fun y => ?_, fun k hk => ?_⟩
  · unfold noErr
    rw [h.1 y, if_pos rfl]
  · have e := h.2 k hk
    unfold noErr
    rw [if_neg (by rw [e]; omega)]
    exact e
theorem back_noErr {R : α → List UInt8 → Prop} (h : BackR p R) : BackR (noErr z p) R := fun bs a r e => by
  unfold noErr at e
  split at e
  · exact h bs a r e
  · rename_i h
    exact absurd (congrArg (fun p : α × List UInt8 × Nat => p.2.2) e) h
end
theorem takeHd_eq : takeHd = noErr noHd hdP := rfl
theorem takeTx_eq : takeTx = noErr noTx txP := rfl
theorem stay_takeHd : Stay takeHd := takeHd_eq ▸ stay_noErr stay_hd
theorem stay_takeTx : Stay takeTx := takeTx_eq ▸ stay_noErr stay_tx
theorem good_takeHd (h : THd) (hh : HdOk h) : Good takeHd h (hdB h) := takeHd_eq ▸ good_noErr (good_hd h hh)
theorem good_takeTx (t : TTx) (h : TxRead t) : Good takeTx t (txB t) := takeTx_eq ▸ good_noErr (good_tx t h)
theorem back_hd : BackR hdP (fun h x => x = hdB h ∧ HdOk h) := by
  refine BackR.weak ((back_le 4).andThen (fun v => (back_take 32).andThen (fun p => (back_take 32).andThen (fun r => (back_le 4).andThen (fun t => (back_le 4).andThen (fun w => (back_le 4).map _) (fun _ => (stay_le 4).map _)) (fun _ => (stay_le 4).andThen fun _ => (stay_le 4).map _)) (fun _ => (stay_le 4).andThen fun _ => (stay_le 4).andThen fun _ => (stay_le 4).map _)) (fun _ => (stay_take 32).andThen fun _ => (stay_le 4).andThen fun _ => (stay_le 4).andThen fun _ => (stay_le 4).map _)) (fun _ => (stay_take 32).andThen fun _ => (stay_take 32).andThen fun _ => (stay_le 4).andThen fun _ => (stay_le 4).andThen fun _ => (stay_le 4).map _)) ?_
  rintro a x ⟨v, x1, x2, rfl, ⟨rfl, hv⟩, p, x3, x4, rfl, ⟨rfl, hp⟩, r, x5, x6, rfl, ⟨rfl, hr⟩, t, x7, x8, rfl, ⟨rfl, ht⟩, w, x9, x10, rfl, ⟨rfl, hw⟩, n, rfl, rfl, hn⟩
  rw [padH_all hp, padH_all hr]
  exact ⟨by simp only [hdB, List.append_assoc], Nat.le_of_lt_succ hv, hp, hr, Nat.le_of_lt_succ ht, Nat.le_of_lt_succ hw, Nat.le_of_lt_succ hn⟩
theorem back_takeHd : BackR takeHd (fun h x => x = hdB h ∧ HdOk h) := takeHd_eq ▸ back_noErr back_hd
theorem back_takeTx : BackR takeTx (fun t x => x = txB t ∧ TxRead t) := takeTx_eq ▸ back_noErr back_tx
/-- What a block must be to be read again. -/
def BlkRead (x : TBlk) : Prop := HdOk x.head ∧ (∀ t ∈ x.txs, TxRead t) ∧ x.txs.length ≤ 200
theorem stay_blk : Stay blkP := stay_takeHd.andThen fun _ => (stay_num 200).andThen fun n => (stay_many n).map _
theorem good_blk (x : TBlk) (h : BlkRead x) : Good blkP x (blkB x) := by
  obtain ⟨h1, h2, h3⟩ := h
  obtain ⟨a, l⟩ := x
  simp only at h1 h2 h3
  have g := (good_takeHd a h1).andThen (q := fun h => thenP (numL 200) fun n => mapP (fun l => (⟨h, l⟩ : TBlk)) (manyP takeTx n))
    ((good_num 200 l.length h3 (by omega)).andThen (q := fun n => mapP (fun l => (⟨a, l⟩ : TBlk)) (manyP takeTx n))
      ((good_many txB l (fun z hz => good_takeTx z (h2 z hz))).map _) (fun n => (stay_many n).map _))
    (fun _ => (stay_num 200).andThen fun n => (stay_many n).map _)
  simp only [blkB, txsB, List.append_assoc]
  exact g
theorem back_blk : BackR blkP (fun x bs => bs = blkB x ∧ BlkRead x) := by
  refine BackR.weak (back_takeHd.andThen (fun h => (back_num 200).andThen (fun n => (back_many txB _ back_takeTx n).map _) (fun n => (stay_many n).map _)) (fun _ => (stay_num 200).andThen fun n => (stay_many n).map _)) ?_
  rintro a x ⟨v, x1, x2, rfl, ⟨rfl, hv⟩, n, x3, x4, rfl, ⟨rfl, hn⟩, l, rfl, rfl, hl, hll⟩
  subst hll
  exact ⟨by simp only [blkB, txsB, List.append_assoc], hv, hl, hn⟩
/-- What was written is read again. -/
theorem blk_own {x : TBlk} (h : BlkRead x) : readBlk (blkB x) = (x, 0) := by
  have g := (good_blk x h).1 []
  rw [List.append_nil] at g
  unfold readBlk
  rw [g]
  rfl
/-- Cut off, it ends too early. -/
theorem blk_cut {x : TBlk} (h : BlkRead x) {k : Nat} (hk : k < (blkB x).length) : readBlk ((blkB x).take k) = (noBlk, 1) := by
  have g := (good_blk x h).2 k hk
  unfold readBlk
  rw [g, if_pos (by omega)]
/-- Longer, it has another shape. -/
theorem blk_long {x : TBlk} (h : BlkRead x) {y : List UInt8} (hy : y ≠ []) : readBlk (blkB x ++ y) = (noBlk, 2) := by
  unfold readBlk
  rw [(good_blk x h).1 y, if_neg (by simp), if_pos hy]
/-- What is read has just these bytes. -/
theorem blk_back {b : List UInt8} (h : (readBlk b).2 = 0) : b = blkB (readBlk b).1 ∧ BlkRead (readBlk b).1 := by
  obtain ⟨p, hp⟩ : ∃ p, blkP b 0 = p := ⟨_, rfl⟩
  unfold readBlk at h ⊢
  rw [hp] at h ⊢
  obtain ⟨a, r, c⟩ := p
  by_cases h1 : c ≠ 0
  · rw [if_pos (show (a, r, c).2.2 ≠ 0 from h1)] at h
    exact absurd h h1
  · have h1 : c = 0 := by omega
    subst h1
    by_cases h2 : r ≠ []
    · rw [if_neg (show ¬ (a, r, 0).2.2 ≠ 0 from fun h => h rfl), if_pos (show (a, r, 0).2.1 ≠ [] from h2)] at h
      exact absurd h (by simp)
    · have h2 : r = [] := by simpa using h2
      subst h2
      obtain ⟨x, e, e2, hr⟩ := back_blk b a [] hp
      rw [List.append_nil] at e
      exact ⟨e.trans e2, hr⟩
end Go.Proofs.YtcghbogkplcohaaDoor.Sha

/-
  What of a block is small enough for the walks. No conditions.
-/
namespace Go.Proofs.YtcghbogkplcohaaDoor.Sha
open Go Go.RowKit
/-- A block of a few transactions, each of a few inputs and outputs. -/
def BlkSmall (x : TBlk) : Prop := (∀ t ∈ x.txs, TxSmall t) ∧ x.txs.length ≤ 1000
theorem txB_le {t : TTx} (h : TxSmall t) : (txB t).length ≤ 200100000 := by
  have h1 := h.bytes
  have h2 := h.ins0
  have h3 := h.2.2.1
  have h4 := lenN_bd t.ins.length
  have h5 := lenN_bd t.outs.length
  omega
theorem txsB_le : ∀ (l : List TTx), (∀ t ∈ l, TxSmall t) → (txsB l).length ≤ 200100000 * l.length
  | [], _ => by simp [txsB]
  | t :: l, h => by
    have ih := txsB_le l (fun u hu => h u (List.mem_cons_of_mem _ hu))
    have h1 := txB_le (h t List.mem_cons_self)
    rw [txsB_cons, List.length_append, List.length_cons]
    omega
theorem BlkSmall.txs {x : TBlk} (h : BlkSmall x) : (txsB x.txs).length ≤ 200100000000 := by
  have h1 := txsB_le x.txs h.1
  have h2 := h.2
  omega
theorem blkB_len {x : TBlk} (hh : HdOk x.head) : (blkB x).length = 80 + lenN x.txs.length + (txsB x.txs).length := by
  simp only [blkB, List.length_append, hdB_length hh, putL_length]
theorem BlkSmall.len {x : TBlk} (h : BlkSmall x) (hh : HdOk x.head) : (blkB x).length ≤ 200200000000 := by
  have h1 := h.txs
  have h2 := lenN_bd x.txs.length
  rw [blkB_len hh]
  omega
end Go.Proofs.YtcghbogkplcohaaDoor.Sha

/-
  Package block tells how many bytes a block has. Nothing that was there turns. Condition: a block of a few transactions that lies in memory.
-/
namespace Go.Proofs.YtcghbogkplcohaaDoor.Sha
open Go Go.RowKit
def BsInv (n A : Nat) (l : List TTx) (w1 : World) (vs vi : Value) (wr : World) : Prop :=
  ∃ k s : Nat, k ≤ n ∧ vi = .int .i64 k ∧ s = A + (txsB (l.take k)).length ∧ vs = .int .i64 s ∧ Below w1.heap.size w1 wr
set_option maxHeartbeats 1000000 in
set_option maxRecDepth 100000 in
theorem blsize_any (x : TBlk) (v : Value) (w : World) (h1 : BlkAt w v x) (hs : BlkSmall x) :
    Calls Tryd.prog 19 #[v] w fun e w' => e = .returned (.int .i64 ((blkB x).length : Int)) ∧ Below w.heap.size w w' := by
  have TL := Lib.hid hs.txs
  have BL := Lib.hid (blkB_len h1.1)
  obtain ⟨hh, tv, rfl, ht⟩ := h1
  obtain ⟨sp, cap, rfl⟩ := ht.shape
  obtain ⟨n, hn⟩ : ∃ n, n = x.txs.length := ⟨_, rfl⟩
  rw [← hn] at ht ⊢
  have hcap : n ≤ cap := ht.len.2
  obtain ⟨cs, hcs⟩ : ∃ cs, cs = blL x.head (.slice sp n cap) := ⟨_, rfl⟩
  rw [← hcs]
  have CS := Lib.hid hcs
  have LCS : Hid (cs.length = 69) := by show _ = _; rw [hcs]; exact blL_length hh _
  have LCS' : Hid (cs.toArray.size = 69) := by show _ = _; rw [hcs]; exact blL_size hh _
  have BV : Hid (∀ W, Below w.heap.size w W → BlkAt W (.agg cs.toArray) x) := fun W hW => by rw [hcs]; exact ⟨hh, _, rfl, ht.below hW⟩
  have HH := Lib.hid hh
  have HT := Lib.hid ht
  have NN := Lib.hid hn
  have TS := Lib.hid hs
  have bn : n ≤ 1000 := by rw [hn]; exact hs.2
  clear hs
  clear hcs hh ht hn
  go_enter Tryd.func19, Tryd.ntmps19
  go_upto_region 1 with fail
  have f0 := heap_alloc_new w (.cells cs.toArray 37 (0, 0))
  have b0 := (Below.refl w.heap.size w).alloc (Nat.le_refl _) (.cells cs.toArray 37 (0, 0))
  generalize hw1 : World.alloc _ _ = w1
  have e1 : w.alloc (.cells cs.toArray 37 (0, 0)) = w1 := hw1
  rw [e1] at f0 b0
  have k0 := f0
  rw [CS.out] at k0
  have K : Hid (BlBox w1 w.heap.size x.head (.slice sp n cap)) := ⟨k0⟩
  have F0 := Lib.hid f0
  have B0 := Lib.hid b0
  clear hw1 e1 f0 b0 k0
  have c68 : w1.cell? ⟨w.heap.size, 68, none⟩ = some (.slice sp n cap) := K.out.txs HH.out
  have u1 := @u64_stays (n : Int) (by omega)
  obtain ⟨A, hA⟩ : ∃ A, A = 80 + lenN n := ⟨_, rfl⟩
  have bA : A ≤ 89 := by have := lenN_bd n; omega
  have u2 : IntKind.i64.wrap (80 + ((lenN n : Nat) : Int)) = (A : Int) := by rw [i64_stays (by have := lenN_bd n; omega)]; omega
  have HA := Lib.hid hA
  clear hA
  go_wp2_with (go_at_call 32; refine (len_c n _).mono ?_; rintro e w' ⟨rfl, rfl⟩)
  clear u1 u2
  go_loopw [3, 15] (fun vs vi wr => BsInv n A x.txs w1 vs vi wr) (fun _ i _ => n - (intOf i).toNat)
  case atStart => exact ⟨0, A, by omega, rfl, by simp [txsB], rfl, Below.refl _ _⟩
  case round =>
    obtain ⟨k, s, hk, rfl, hs, rfl, B⟩ := hrel
    have B := Lib.hid B
    have HSm := Lib.hid hs
    clear hs c68
    by_cases hlt : k < n
    · skip
      obtain ⟨b, o, hs1, _, hg⟩ := HT.out.get (by omega)
      obtain ⟨t, hgt⟩ : ∃ t, x.txs[k]? = some t := ⟨_, List.getElem?_eq_getElem (by have := NN.out; omega)⟩
      obtain ⟨iv, ov, hr, hta⟩ := hg k t hgt
      have LC : Hid ((txL t iv ov).length = 4) := rfl
      have LC' : Hid ((txL t iv ov).toArray.size = 4) := rfl
      have ONE : Hid ((txL t iv ov).toArray.all (·.oneCell') = true) := by
        obtain ⟨_, iv', ov', e, h1, h2⟩ := hta
        have e : txL t iv ov = txL t iv' ov' := by simpa using e
        rw [e]
        exact tx_one h1 h2
      obtain ⟨ct, hct⟩ : ∃ ct, ct = txL t iv ov := ⟨_, rfl⟩
      rw [← hct] at hr hta LC LC' ONE
      have R := Lib.hid (range_below (range_below hr B0.out) B.out)
      have TA : Hid (∀ W, Below wr.heap.size wr W → TxAt W (.agg ct.toArray) t) := fun W hW => ((hta.below B0.out).below B.out).below hW
      have GT := Lib.hid hgt
      have p0 : 0 ≤ (k : Int) := by omega
      have q0 : (k : Int) < (n : Int) := by omega
      subst hs1
      clear hg hgt hr hta hct
      obtain ⟨g5, hg5⟩ : ∃ g5, g5 = wr.heap.size := ⟨_, rfl⟩
      obtain ⟨_, f2, f3, f4⟩ := fill_setup (Below.refl wr.heap.size wr) [nV 0, .slice none 0 0, .slice none 0 0, nV 0].toArray ct.toArray 32
      go_upto_region 5 with ((with_reducible show wpList _ _ _ _ _ _); first | (refine wpList_load_mid rfl 32 (.tmp 17) rfl b (o + k * 4) rfl ct _ R.out Tryd.underlying32 rfl (by rw [LC.out]; kernel_rfl) ?_; go_frame) | (refine wpList_store_row rfl 32 (.tmp 5) (.tmp 18) rfl wr.heap.size ct.toArray rfl rfl 32 _ (heap_alloc_new _ _) (by rw [LC'.out]; kernel_rfl) (by rw [LC'.out]; rfl) ONE.out ?_; go_frame))
      rw [← hg5] at f2 f3 f4 ⊢
      generalize hw5 : World.setRow _ _ _ = w5
      have e5 : World.setRow (wr.alloc (.cells [nV 0, .slice none 0 0, .slice none 0 0, nV 0].toArray 32)) g5 ct.toArray = w5 := hw5
      rw [e5] at f2 f4
      rw [hg5] at f4
      have F5 := Lib.hid f2
      have N5 := Lib.hid f4
      have B5 := Lib.hid (B.out.trans (f4.mono B.out.size))
      have G5 := Lib.hid hg5
      clear f2 f3 f4 hg5 hw5 e5
      obtain ⟨m, hm⟩ : ∃ m, m = (txB t).length := ⟨_, rfl⟩
      have bs : s + m ≤ 300000000000 := by
        have h1 := txsB_part GT.out
        have h2 := TL.out
        have h4 := HSm.out
        omega
      have SZ : Hid (Calls Tryd.prog 33 #[.agg ct.toArray] w5 fun e w'' => e = .returned (.int .i64 (m : Int)) ∧ Below w5.heap.size w5 w'') := by
        rw [hm]
        exact size_all t _ w5 (TA.out _ N5.out) (TS.out.1 t (List.mem_of_getElem? GT.out))
      have HM := Lib.hid hm
      clear hm
      go_wp2_with (first | ((with_reducible show wpList _ _ _ _ _ _); (refine wpList_load_row rfl 32 (.tmp 5) rfl g5 rfl 32 ct.toArray (0, 0) _ F5.out Tryd.underlying32 rfl (by rw [LC'.out]; kernel_rfl) ?_; go_frame)) | (go_at_call 33; refine SZ.out.mono ?_; rintro e w6 ⟨rfl, hb6⟩; have B6 := Lib.hid (B5.out.trans (hb6.mono B5.out.size)); clear hb6))
      go_roundw
      case rel =>
        refine ⟨k + 1, s + m, by omega, by go_num, ?_, by go_num, B6.out⟩
        rw [txsB_snoc GT.out, List.length_append, ← HM.out, HSm.out]
        omega
      case measure => simp [intOf]; omega
    · have hkn : k = n := by omega
      have hge : ¬ (k : Int) < (n : Int) := by omega
      have hs2 : s = (blkB x).length := by
        have h1 := HSm.out
        have h2 := NN.out
        rw [hkn, h2, List.take_length] at h1
        rw [h1, BL.out, HA.out, ← h2]
      have HS2 := Lib.hid hs2
      clear hs2 hkn
      go_wp2_with fail
      go_ret
      exact ⟨ret_int (by rw [HS2.out]), B0.out.trans (B.out.mono B0.out.size)⟩
end Go.Proofs.YtcghbogkplcohaaDoor.Sha

/-
  bytes.Equal answers whether two slices have the same bytes; nothing is written. Condition: the bytes lie where the slices say.
-/
namespace Go.Proofs.YtcghbogkplcohaaDoor.Sha
open Go Go.RowKit
theorem conv_src {w : World} {v : Value} {bs : List UInt8} (h : SrcB w v bs) : (convert 40 9 v).run Tryd.prog w = .ok (.string ⟨bs.toArray⟩) w := by
  rcases h with ⟨sp, cap, rfl, rfl⟩ | ⟨h0, bb, off, cap, rfl, hc, hs⟩
  · cases sp with
    | none => exact Lib.run_convert_nil_bytes w _ _ _ cap Tryd.underlying40 Tryd.underlying5 Tryd.underlying9
    | some a => exact run_convert_bytes_back w _ _ _ a cap [] Tryd.underlying40 Tryd.underlying5 Tryd.underlying9 (fun j hj => absurd hj (by simp))
  · exact run_convert_bytes_back w _ _ _ ⟨bb, off, none⟩ cap bs Tryd.underlying40 Tryd.underlying5 Tryd.underlying9 (fun j hj => by
      rw [Addr.add_mid, hs j hj]
      simp [bv, List.getD, List.getElem?_eq_getElem hj])
theorem bytes_beq_of (x y : List UInt8) : ((⟨x.toArray⟩ : ByteArray).toList == (⟨y.toArray⟩ : ByteArray).toList) = decide (x = y) := by
  rw [ByteArray.toList_eq, ByteArray.toList_eq]
  show (x == y) = decide (x = y)
  by_cases h : x = y <;> simp [h]
end Go.Proofs.YtcghbogkplcohaaDoor.Sha
