/-
  Texts of this proof joined into one file: BlFirst, SpLock, BlStart. What each holds, and under which conditions, its own first sentence tells.
-/
import Derived.IntWalk
import Derived.Test.YtdamhoagiooicaaGreatDoorMg19
import Derived.Test.YtdamhoagiooicaaGreatDoorMg14
import Derived.Test.YtdamhoagiooicaaGreatDoorMg07
import Derived.Test.YtdamhoagiooicaaGreatDoorMg06
import Derived.Test.YtdamhoagiooicaaGreatDoorMg10
import Derived.Test.YtdamhoagiooicaaGreatDoorMg04
import Derived.Test.YtdamhoagiooicaaGreatDoorMg13
import Derived.Test.YtdamhoagiooicaaGreatDoorMg16
/-
  Package block makes the first transaction of a block. New memory; nothing that was there turns. Condition: the bytes that are added lie where the slice says.
-/
namespace Go.Proofs.YtdamhoagiooicaaGreatDoor.Sha
open Go Go.RowKit
theorem yieldsIf_build {P : Program} {ops : Array Oper} {S : World → Prop} {op : Oper} {a : Act} (hw : Region.wanted op (yielded ops a.tmps) = true) (t : TypeId) (parts : Array (Nat × Operand)) (ho : op.op = .build t parts) (ps : List (Nat × Value)) (hps : (parts.map fun (i, x) => (i, a.eval x)).toList = ps) (cs : Array Value)
    (hf : P.built t ps = some cs) : YieldsIf P ops S op (.agg cs) a :=
  .inl ⟨hw, fun w _ => by
    unfold execOp
    subst hps
    simp only [ho, Sem.run_bind, run_build w t _ _ hf, Result.andThen_ok, Sem.run_pure]⟩
theorem built_outl (v : Nat) (l : List UInt8) (hl : l.length = 32) : Tryz.prog.built 111 [(0, .int .u64 (v : Int)), (1, .agg (l.map bV).toArray)] = some (outL ⟨v, l⟩).toArray := by
  have hz : ∀ parts, Tryz.prog.built 111 parts = Instr.fill ([(0, 1), (1, 32)].toArray[·]?) (uV 0 :: List.replicate 32 (bV 0)).toArray parts := fun parts => by kernel_rfl
  have hm : (l.map bV).length = 32 := by simp [hl]
  rw [hz, fill_part _ 0 0 (.int .u64 (v : Int)) [uV v] _ _ rfl rfl (by simp), fill_part _ 1 1 (.agg (l.map bV).toArray) (l.map bV) _ _ rfl (by rw [hm]; rfl) (by rw [hm]; simp)]
  have e : ∀ A : List Value, A.length ≤ 33 → A.drop (1 + (l.map bV).length) = [] := fun A hA => List.drop_of_length_le (by rw [hm]; omega)
  rw [e _ (by simp), List.append_nil]
  rfl
/-- The first transaction of a block. -/
def firstX (h32 : Nat) (ex : List UInt8) : TIn := ⟨zH, 4294967295, leB h32 4 ++ ex, 4294967295⟩
def firstT (h32 val : Nat) (lock ex : List UInt8) : TTx := ⟨1, [firstX h32 ex], [⟨val, lock⟩], 0⟩
theorem firstX_ok {h32 : Nat} (ex : List UInt8) (_ : h32 ≤ 4294967295) : InOk (firstX h32 ex) := ⟨zH_length, by show 4294967295 ≤ _; omega, by show 4294967295 ≤ _; omega⟩
set_option maxHeartbeats 4000000 in
set_option maxRecDepth 100000 in
theorem blfirst_any (h : Int) (h32 val : Nat) (lock ex : List UInt8) (ve : Value) (w : World) (hh : IntKind.u32.wrap h = (h32 : Int)) (h3 : h32 ≤ 4294967295) (hv : val ≤ 18446744073709551615) (hl : lock.length = 32) (hs : SrcB w ve ex) (he : ex.length ≤ 70368744170000) :
    Calls Tryz.prog 67 #[.int .i64 h, .int .u64 (val : Int), .agg (lock.map bV).toArray, ve] w fun e w' => ∃ v', e = .returned v' ∧ TxNew w w' v' (firstT h32 val lock ex) ∧ Below w.heap.size w w' := by
  obtain ⟨i1, hi1, hy0, hy1, hy2⟩ := info_parts info_bytes
  obtain ⟨i2, hi2, hx0, hx1, hx2⟩ := info_parts info_in
  obtain ⟨i3, hi3, hv0, hv1, hv2⟩ := info_parts info_out
  obtain ⟨se, ne, ce, rfl, q1, q2⟩ := hs.shape'
  clear q1 q2
  have H32 := Lib.hid h3
  have LK := Lib.hid hl
  have LL : Hid ((lock.map bV).toArray.size = 32) := by show _ = _; simp [hl]
  have LO : Hid ((outL ⟨val, lock⟩).length = 33) := outL_length _ hl
  have VB := Lib.hid hv
  have SE := Lib.hid hs
  have LE := Lib.hid he
  clear hl hs he hv h3
  go_enter Tryz.func67, Tryz.ntmps67
  go_upto_region 1 with fail
  have f1 := row_below (heap_alloc_new w (.cells (lock.map bV).toArray 24 (0, 0))) ((Below.refl _ _).alloc (Nat.le_refl _) (.cells [nV 0, .slice none 0 0, .slice none 0 0, nV 0].toArray 66))
  have f2 := heap_alloc_new (w.alloc (.cells (lock.map bV).toArray 24 (0, 0))) (.cells [nV 0, .slice none 0 0, .slice none 0 0, nV 0].toArray 66)
  have b1 := ((Below.refl w.heap.size w).alloc (Nat.le_refl _) (.cells (lock.map bV).toArray 24 (0, 0))).alloc (by simp) (.cells [nV 0, .slice none 0 0, .slice none 0 0, nV 0].toArray 66)
  rw [World.size_alloc] at f2
  generalize hw1 : World.alloc _ _ = w1
  have e1 : (w.alloc (.cells (lock.map bV).toArray 24 (0, 0))).alloc (.cells [nV 0, .slice none 0 0, .slice none 0 0, nV 0].toArray 66) = w1 := hw1
  rw [e1] at f1 f2 b1
  have F1 := Lib.hid f1
  have FT := Lib.hid f2
  have B1 := Lib.hid b1
  clear f1 f2 b1 hw1 e1
  refine wp_region_held_drew (S := (fun w' => Below w.heap.size w w' ∧ w'.heap[w.heap.size]? = some (.cells (lock.map bV).toArray 24 (0, 0)))) (by kernel_rfl) (⟨Below.drew B1.out, F1.out⟩) (fun hHeld => ?_)
  have FT : Hid (w1.drew.heap[w.heap.size + 1]? = some (.cells [nV 0, .slice none 0 0, .slice none 0 0, nV 0].toArray 66 (0, 0))) := FT.out
  generalize hwd : w1.drew = wd at FT hHeld ⊢
  clear hwd
  refine held_take (i := 1) (v := (.int .i64 h)) rfl (by kernel_rfl) (by kernel_rfl) (by kernel_rfl) (fun _ _ _ h => h) (Or.inl ⟨by rfl, fun w' _ => by kernel_rfl⟩) hHeld ?_
  go_frame
  refine held_take (i := 2) (v := (.int .u32 (h32 : Int))) rfl (by kernel_rfl) (by kernel_rfl) (by kernel_rfl) (fun _ _ _ h => h) (Or.inl ⟨by rfl, fun w' _ => by go_simp⟩) hHeld ?_
  go_frame
  refine held_take (i := 4) (v := (.slice se ne ce)) rfl (by kernel_rfl) (by kernel_rfl) (by kernel_rfl) (fun _ _ _ h => h) (Or.inl ⟨by rfl, fun w' _ => by kernel_rfl⟩) hHeld ?_
  go_frame
  refine held_take (i := 9) (v := (.int .u64 (val : Int))) rfl (by kernel_rfl) (by kernel_rfl) (by kernel_rfl) (fun _ _ _ h => h) (Or.inl ⟨by rfl, fun w' _ => by kernel_rfl⟩) hHeld ?_
  go_frame
  refine held_take (i := 10) (v := (.agg (lock.map bV).toArray)) rfl (by kernel_rfl) (by kernel_rfl) (by kernel_rfl) (fun _ _ _ h => h) (yieldsIf_load_row (by rfl) 24 (.tmp 6) rfl w.heap.size rfl 24 (lock.map bV).toArray (0, 0) _ (fun w' hw' => hw'.2) Tryz.underlying24 rfl (by rw [LL.out]; kernel_rfl)) hHeld ?_
  go_frame
  refine held_take (i := 11) (v := (.agg (outL ⟨val, lock⟩).toArray)) rfl (by kernel_rfl) (by kernel_rfl) (by kernel_rfl) (fun _ _ _ h => h) (yieldsIf_build (by rfl) 111 _ rfl [(0, .int .u64 (val : Int)), (1, .agg (lock.map bV).toArray)] (by kernel_rfl) _ (built_outl val lock LK.out)) hHeld ?_
  go_frame
  refine wpAnyH_ready (rs := [0, 12]) (by kernel_rfl) (by simp) (held_cons rfl (fun K hK => ?_) (held_cons rfl (fun K hK => ?_) AllReadyH.nil))
  · skip
    go_simp
    refine (null_any _).mono ?_
    rintro e v1 ⟨rfl, bb⟩
    have FT := Lib.hid (row_below FT.out bb)
    have hv1 := (show _ ∧ _ from ⟨hHeld.1.trans (bb.mono hHeld.1.size), row_below hHeld.2 bb⟩)
    clear bb hHeld
    go_wp2_with fail
    refine hK.out _ _ hv1 (fun hHeld => ?_)
    clear hK K hv1
    refine wpAnyH_ready (rs := [3, 12]) (by kernel_rfl) (by simp) (held_cons rfl (fun K hK => ?_) (held_cons rfl (fun K hK => ?_) AllReadyH.nil))
    · skip
      go_simp
      refine (four_new [] _ h32 _ (nil_src _) (by simp) H32.out).mono ?_
      rintro e v2 ⟨s4, n4, c4, rfl, hn4, hc4⟩
      have KA := Lib.hid hc4.src
      have bb := hc4.2
      clear hn4 hc4
      have FT := Lib.hid (row_below FT.out bb)
      have hv2 := (show _ ∧ _ from ⟨hHeld.1.trans (bb.mono hHeld.1.size), row_below hHeld.2 bb⟩)
      clear bb hHeld
      go_wp2_with fail
      refine hK.out _ _ hv2 (fun hHeld => ?_)
      clear hK K hv2
      refine wpAnyH_ready (rs := [5, 12]) (by kernel_rfl) (by simp) (held_cons rfl (fun K hK => ?_) (held_cons rfl (fun K hK => ?_) AllReadyH.nil))
      · skip
        rw [if_pos (by rfl)]
        refine wp_buildSlice 158 30 2 _ rfl #[.slice s4 n4 c4, .slice se ne ce] i1 (.slice none 0 0) Tryz.underlying158 hi1 hy0 (by rw [hy1]; omega) (by rw [hy1]; omega) (by rw [hy1]; kernel_rfl) ?_
        have nf := heap_alloc_new v2 (.cells #[.slice s4 n4 c4, .slice se ne ce] 30 (0, 0))
        have bb := (Below.refl v2.heap.size v2).alloc (Nat.le_refl _) (.cells #[.slice s4 n4 c4, .slice se ne ce] 30 (0, 0))
        obtain ⟨gv3, hgv3⟩ : ∃ g, g = v2.heap.size := ⟨_, rfl⟩
        generalize hqv3 : World.alloc _ _ = v3
        have ev3 : v2.alloc (.cells #[.slice s4 n4 c4, .slice se ne ce] 30 (0, 0)) = v3 := hqv3
        rw [ev3] at nf bb
        rw [← hgv3] at nf ⊢
        have NS := Lib.hid nf
        have FT := Lib.hid (row_below FT.out bb)
        have KA := Lib.hid (KA.out.below bb)
        have hv3 := (show _ ∧ _ from ⟨hHeld.1.trans (bb.mono hHeld.1.size), row_below hHeld.2 bb⟩)
        clear nf bb hqv3 ev3 hgv3 hHeld
        go_frame
        refine hK.out _ _ hv3 (fun hHeld => ?_)
        clear hK K hv3
        refine wpAnyH_ready (rs := [6, 12]) (by kernel_rfl) (by simp) (held_cons rfl (fun K hK => ?_) (held_cons rfl (fun K hK => ?_) AllReadyH.nil))
        · skip
          go_simp
          refine (concat_any ([] ++ leB h32 4) ex _ _ gv3 _ (by rw [cell_of_row _ _ _ _ _ _ NS.out]; rfl) (by rw [cell_of_row _ _ _ _ _ _ NS.out]; rfl) KA.out (SE.out.below hHeld.1) (by simp [leB_length]) (by simp [leB_length]) LE.out).mono ?_
          rintro e v4 ⟨gk, nk, ck, rfl, hgk, kk, bb⟩
          have GK : Hid (w.heap.size + 1 < gk) := Nat.lt_of_lt_of_le (Array.getElem?_eq_some_iff.1 FT.out).1 hgk
          have KK := Lib.hid kk
          clear kk hgk
          have FT := Lib.hid (row_below FT.out bb)
          have KA := Lib.hid (KA.out.below bb)
          have NS := Lib.hid (row_below NS.out bb)
          have hv4 := (show _ ∧ _ from ⟨hHeld.1.trans (bb.mono hHeld.1.size), row_below hHeld.2 bb⟩)
          clear bb hHeld
          go_wp2_with fail
          refine hK.out _ _ hv4 (fun hHeld => ?_)
          clear hK K hv4
          refine held_take (i := 7) (v := (.agg (inL (firstX h32 ex) (.slice (some ⟨gk, 0, none⟩) nk ck)).toArray)) rfl (by kernel_rfl) (by kernel_rfl) (by kernel_rfl) (fun _ _ _ h => h) (yieldsIf_build (by rfl) 70 _ rfl [(0, .agg nullL.toArray), (1, .slice (some ⟨gk, 0, none⟩) nk ck), (2, .int .u32 4294967295)] (by kernel_rfl) _ (by kernel_rfl)) hHeld ?_
          go_frame
          refine wpAnyH_ready (rs := [8, 12]) (by kernel_rfl) (by simp) (held_cons rfl (fun K hK => ?_) (held_cons rfl (fun K hK => ?_) AllReadyH.nil))
          · skip
            rw [if_pos (by rfl)]
            refine wp_slice_one 63 70 (.tmp 16) rfl (inL (firstX h32 ex) (.slice (some ⟨gk, 0, none⟩) nk ck)) rfl Tryz.underlying63 i2 _ hi2 hx0 (by rw [hx1]; rfl) (by show 0 < 35; omega) (by show 35 ≤ _; omega) ?_
            have nf := heap_alloc_new v4 (.cells (inL (firstX h32 ex) (.slice (some ⟨gk, 0, none⟩) nk ck)).toArray 70 (0, 0))
            have bb := (Below.refl v4.heap.size v4).alloc (Nat.le_refl _) (.cells (inL (firstX h32 ex) (.slice (some ⟨gk, 0, none⟩) nk ck)).toArray 70 (0, 0))
            obtain ⟨gv5, hgv5⟩ : ∃ g, g = v4.heap.size := ⟨_, rfl⟩
            generalize hqv5 : World.alloc _ _ = v5
            have ev5 : v4.alloc (.cells (inL (firstX h32 ex) (.slice (some ⟨gk, 0, none⟩) nk ck)).toArray 70 (0, 0)) = v5 := hqv5
            rw [ev5] at nf bb
            rw [← hgv5] at nf ⊢
            have NI := Lib.hid nf
            have GNI : Hid (w.heap.size + 1 < gv5) := by show _ < _; rw [hgv5]; exact (Array.getElem?_eq_some_iff.1 FT.out).1
            have FT := Lib.hid (row_below FT.out bb)
            have KA := Lib.hid (KA.out.below bb)
            have NS := Lib.hid (row_below NS.out bb)
            have KK := Lib.hid (KK.out.below bb)
            have hv5 := (show _ ∧ _ from ⟨hHeld.1.trans (bb.mono hHeld.1.size), row_below hHeld.2 bb⟩)
            clear nf bb hqv5 ev5 hgv5 hHeld
            go_frame
            refine hK.out _ _ hv5 (fun hHeld => ?_)
            clear hK K hv5
            refine wpAnyH_ready (rs := [12]) (by kernel_rfl) (by simp) (held_cons rfl (fun K hK => ?_) AllReadyH.nil)
            rw [if_pos (by rfl)]
            refine wp_slice_one 64 111 (.tmp 20) rfl (outL ⟨val, lock⟩) rfl Tryz.underlying64 i3 _ hi3 hv0 (by rw [hv1, LO.out]) (by rw [LO.out]; omega) (by rw [LO.out]; omega) ?_
            have nf := heap_alloc_new v5 (.cells (outL ⟨val, lock⟩).toArray 111 (0, 0))
            have bb := (Below.refl v5.heap.size v5).alloc (Nat.le_refl _) (.cells (outL ⟨val, lock⟩).toArray 111 (0, 0))
            obtain ⟨gv6, hgv6⟩ : ∃ g, g = v5.heap.size := ⟨_, rfl⟩
            generalize hqv6 : World.alloc _ _ = v6
            have ev6 : v5.alloc (.cells (outL ⟨val, lock⟩).toArray 111 (0, 0)) = v6 := hqv6
            rw [ev6] at nf bb
            rw [← hgv6] at nf ⊢
            have NO := Lib.hid nf
            have GNO : Hid (w.heap.size + 1 < gv6) := by show _ < _; rw [hgv6]; exact (Array.getElem?_eq_some_iff.1 FT.out).1
            have FT := Lib.hid (row_below FT.out bb)
            have KA := Lib.hid (KA.out.below bb)
            have NS := Lib.hid (row_below NS.out bb)
            have KK := Lib.hid (KK.out.below bb)
            have NI := Lib.hid (row_below NI.out bb)
            have hv6 := (show _ ∧ _ from ⟨hHeld.1.trans (bb.mono hHeld.1.size), row_below hHeld.2 bb⟩)
            clear nf bb hqv6 ev6 hgv6 hHeld
            go_frame
            refine hK.out _ _ hv6 (fun hHeld => ?_)
            clear hK K hv6
            refine held_take (i := 13) (v := (.agg ([nV 1, (.slice (some ⟨gv5, 0, none⟩) 1 1), (.slice (some ⟨gv6, 0, none⟩) 1 1), nV 0]).toArray)) rfl (by kernel_rfl) (by kernel_rfl) (by kernel_rfl) (fun _ _ _ h => h) (yieldsIf_build (by rfl) 66 _ rfl [(0, .int .u32 1), (1, (.slice (some ⟨gv5, 0, none⟩) 1 1)), (2, (.slice (some ⟨gv6, 0, none⟩) 1 1))] (by kernel_rfl) _ (by kernel_rfl)) hHeld ?_
            go_frame
            refine wpAnyH_ready (rs := [14]) (by kernel_rfl) (by simp) (held_cons rfl (fun K hK => ?_) AllReadyH.nil)
            rw [if_pos (by rfl)]
            refine wp_store_whole 66 (.tmp 8) (.tmp 22) rfl (w.heap.size + 1) [nV 0, .slice none 0 0, .slice none 0 0, nV 0] [nV 1, (.slice (some ⟨gv5, 0, none⟩) 1 1), (.slice (some ⟨gv6, 0, none⟩) 1 1), nV 0] 66 rfl rfl (rfl) FT.out (by kernel_rfl) (by kernel_rfl) ?_
            intro v7 q1 q2
            have FT := Lib.hid q1
            have KK := Lib.hid (KeyAt.off KK.out (fun sp n cap hv _ hq => by cases hv; have e : w.heap.size + 1 = gk := Option.some.inj hq; have := GK.out; omega) q2)
            have NI := Lib.hid (row_far NI.out q2 (by intro h; have := Option.some.inj h; have := GNI.out; omega))
            have NO := Lib.hid (row_far NO.out q2 (by intro h; have := Option.some.inj h; have := GNO.out; omega))
            have hv7 := (show _ ∧ _ from ⟨hHeld.1.grown q2 hHeld.1.size (fun k hk => by cases hk; omega), row_far hHeld.2 q2 (by intro h; have := Option.some.inj h; omega)⟩)
            clear q1 q2 hHeld
            go_frame
            refine hK.out _ _ hv7 (fun hHeld => ?_)
            clear hK K hv7
            refine wpAnyH_done (by kernel_rfl) ?_ _
            have BZ := Lib.hid hHeld.1
            clear hHeld
            go_wp2_with fail
            refine bodyPost_ret (results_cell_row rfl _ _ (w.heap.size + 1) 66 ([nV 1, (.slice (some ⟨gv5, 0, none⟩) 1 1), (.slice (some ⟨gv6, 0, none⟩) 1 1), nV 0]).toArray (0, 0) _ rfl FT.out Tryz.underlying66 rfl (by kernel_rfl)) rfl ?_
            exact ⟨_, rfl, fun W hW => ⟨⟨by show 1 ≤ _; omega, by show 0 ≤ _; omega⟩, _, _, rfl, insAt_one (row_kps NI.out hW (by have := GNI.out; show _ ≤ _; omega)) (x := firstX h32 ex) (firstX_ok ex H32.out) (KK.out.kps (fun sp n cap hv _ => by cases hv; have := GK.out; show w.heap.size ≤ gk; omega) hW), outsAt_one (row_kps NO.out hW (by have := GNO.out; show _ ≤ _; omega)) (y := ⟨val, lock⟩) ⟨LK.out, VB.out⟩⟩, BZ.out⟩
          · skip
            rw [if_pos (by rfl)]
            refine wp_slice_one 64 111 (.tmp 20) rfl (outL ⟨val, lock⟩) rfl Tryz.underlying64 i3 _ hi3 hv0 (by rw [hv1, LO.out]) (by rw [LO.out]; omega) (by rw [LO.out]; omega) ?_
            have nf := heap_alloc_new v4 (.cells (outL ⟨val, lock⟩).toArray 111 (0, 0))
            have bb := (Below.refl v4.heap.size v4).alloc (Nat.le_refl _) (.cells (outL ⟨val, lock⟩).toArray 111 (0, 0))
            obtain ⟨gv8, hgv8⟩ : ∃ g, g = v4.heap.size := ⟨_, rfl⟩
            generalize hqv8 : World.alloc _ _ = v8
            have ev8 : v4.alloc (.cells (outL ⟨val, lock⟩).toArray 111 (0, 0)) = v8 := hqv8
            rw [ev8] at nf bb
            rw [← hgv8] at nf ⊢
            have NO := Lib.hid nf
            have GNO : Hid (w.heap.size + 1 < gv8) := by show _ < _; rw [hgv8]; exact (Array.getElem?_eq_some_iff.1 FT.out).1
            have FT := Lib.hid (row_below FT.out bb)
            have KA := Lib.hid (KA.out.below bb)
            have NS := Lib.hid (row_below NS.out bb)
            have KK := Lib.hid (KK.out.below bb)
            have hv8 := (show _ ∧ _ from ⟨hHeld.1.trans (bb.mono hHeld.1.size), row_below hHeld.2 bb⟩)
            clear nf bb hqv8 ev8 hgv8 hHeld
            go_frame
            refine hK.out _ _ hv8 (fun hHeld => ?_)
            clear hK K hv8
            refine wpAnyH_ready (rs := [8]) (by kernel_rfl) (by simp) (held_cons rfl (fun K hK => ?_) AllReadyH.nil)
            rw [if_pos (by rfl)]
            refine wp_slice_one 63 70 (.tmp 16) rfl (inL (firstX h32 ex) (.slice (some ⟨gk, 0, none⟩) nk ck)) rfl Tryz.underlying63 i2 _ hi2 hx0 (by rw [hx1]; rfl) (by show 0 < 35; omega) (by show 35 ≤ _; omega) ?_
            have nf := heap_alloc_new v8 (.cells (inL (firstX h32 ex) (.slice (some ⟨gk, 0, none⟩) nk ck)).toArray 70 (0, 0))
            have bb := (Below.refl v8.heap.size v8).alloc (Nat.le_refl _) (.cells (inL (firstX h32 ex) (.slice (some ⟨gk, 0, none⟩) nk ck)).toArray 70 (0, 0))
            obtain ⟨gv9, hgv9⟩ : ∃ g, g = v8.heap.size := ⟨_, rfl⟩
            generalize hqv9 : World.alloc _ _ = v9
            have ev9 : v8.alloc (.cells (inL (firstX h32 ex) (.slice (some ⟨gk, 0, none⟩) nk ck)).toArray 70 (0, 0)) = v9 := hqv9
            rw [ev9] at nf bb
            rw [← hgv9] at nf ⊢
            have NI := Lib.hid nf
            have GNI : Hid (w.heap.size + 1 < gv9) := by show _ < _; rw [hgv9]; exact (Array.getElem?_eq_some_iff.1 FT.out).1
            have FT := Lib.hid (row_below FT.out bb)
            have KA := Lib.hid (KA.out.below bb)
            have NS := Lib.hid (row_below NS.out bb)
            have KK := Lib.hid (KK.out.below bb)
            have NO := Lib.hid (row_below NO.out bb)
            have hv9 := (show _ ∧ _ from ⟨hHeld.1.trans (bb.mono hHeld.1.size), row_below hHeld.2 bb⟩)
            clear nf bb hqv9 ev9 hgv9 hHeld
            go_frame
            refine hK.out _ _ hv9 (fun hHeld => ?_)
            clear hK K hv9
            refine held_take (i := 13) (v := (.agg ([nV 1, (.slice (some ⟨gv9, 0, none⟩) 1 1), (.slice (some ⟨gv8, 0, none⟩) 1 1), nV 0]).toArray)) rfl (by kernel_rfl) (by kernel_rfl) (by kernel_rfl) (fun _ _ _ h => h) (yieldsIf_build (by rfl) 66 _ rfl [(0, .int .u32 1), (1, (.slice (some ⟨gv9, 0, none⟩) 1 1)), (2, (.slice (some ⟨gv8, 0, none⟩) 1 1))] (by kernel_rfl) _ (by kernel_rfl)) hHeld ?_
            go_frame
            refine wpAnyH_ready (rs := [14]) (by kernel_rfl) (by simp) (held_cons rfl (fun K hK => ?_) AllReadyH.nil)
            rw [if_pos (by rfl)]
            refine wp_store_whole 66 (.tmp 8) (.tmp 22) rfl (w.heap.size + 1) [nV 0, .slice none 0 0, .slice none 0 0, nV 0] [nV 1, (.slice (some ⟨gv9, 0, none⟩) 1 1), (.slice (some ⟨gv8, 0, none⟩) 1 1), nV 0] 66 rfl rfl (rfl) FT.out (by kernel_rfl) (by kernel_rfl) ?_
            intro v10 q1 q2
            have FT := Lib.hid q1
            have KK := Lib.hid (KeyAt.off KK.out (fun sp n cap hv _ hq => by cases hv; have e : w.heap.size + 1 = gk := Option.some.inj hq; have := GK.out; omega) q2)
            have NO := Lib.hid (row_far NO.out q2 (by intro h; have := Option.some.inj h; have := GNO.out; omega))
            have NI := Lib.hid (row_far NI.out q2 (by intro h; have := Option.some.inj h; have := GNI.out; omega))
            have hv10 := (show _ ∧ _ from ⟨hHeld.1.grown q2 hHeld.1.size (fun k hk => by cases hk; omega), row_far hHeld.2 q2 (by intro h; have := Option.some.inj h; omega)⟩)
            clear q1 q2 hHeld
            go_frame
            refine hK.out _ _ hv10 (fun hHeld => ?_)
            clear hK K hv10
            refine wpAnyH_done (by kernel_rfl) ?_ _
            have BZ := Lib.hid hHeld.1
            clear hHeld
            go_wp2_with fail
            refine bodyPost_ret (results_cell_row rfl _ _ (w.heap.size + 1) 66 ([nV 1, (.slice (some ⟨gv9, 0, none⟩) 1 1), (.slice (some ⟨gv8, 0, none⟩) 1 1), nV 0]).toArray (0, 0) _ rfl FT.out Tryz.underlying66 rfl (by kernel_rfl)) rfl ?_
            exact ⟨_, rfl, fun W hW => ⟨⟨by show 1 ≤ _; omega, by show 0 ≤ _; omega⟩, _, _, rfl, insAt_one (row_kps NI.out hW (by have := GNI.out; show _ ≤ _; omega)) (x := firstX h32 ex) (firstX_ok ex H32.out) (KK.out.kps (fun sp n cap hv _ => by cases hv; have := GK.out; show w.heap.size ≤ gk; omega) hW), outsAt_one (row_kps NO.out hW (by have := GNO.out; show _ ≤ _; omega)) (y := ⟨val, lock⟩) ⟨LK.out, VB.out⟩⟩, BZ.out⟩
        · skip
          rw [if_pos (by rfl)]
          refine wp_slice_one 64 111 (.tmp 20) rfl (outL ⟨val, lock⟩) rfl Tryz.underlying64 i3 _ hi3 hv0 (by rw [hv1, LO.out]) (by rw [LO.out]; omega) (by rw [LO.out]; omega) ?_
          have nf := heap_alloc_new v3 (.cells (outL ⟨val, lock⟩).toArray 111 (0, 0))
          have bb := (Below.refl v3.heap.size v3).alloc (Nat.le_refl _) (.cells (outL ⟨val, lock⟩).toArray 111 (0, 0))
          obtain ⟨gv11, hgv11⟩ : ∃ g, g = v3.heap.size := ⟨_, rfl⟩
          generalize hqv11 : World.alloc _ _ = v11
          have ev11 : v3.alloc (.cells (outL ⟨val, lock⟩).toArray 111 (0, 0)) = v11 := hqv11
          rw [ev11] at nf bb
          rw [← hgv11] at nf ⊢
          have NO := Lib.hid nf
          have GNO : Hid (w.heap.size + 1 < gv11) := by show _ < _; rw [hgv11]; exact (Array.getElem?_eq_some_iff.1 FT.out).1
          have FT := Lib.hid (row_below FT.out bb)
          have KA := Lib.hid (KA.out.below bb)
          have NS := Lib.hid (row_below NS.out bb)
          have hv11 := (show _ ∧ _ from ⟨hHeld.1.trans (bb.mono hHeld.1.size), row_below hHeld.2 bb⟩)
          clear nf bb hqv11 ev11 hgv11 hHeld
          go_frame
          refine hK.out _ _ hv11 (fun hHeld => ?_)
          clear hK K hv11
          refine wpAnyH_ready (rs := [6]) (by kernel_rfl) (by simp) (held_cons rfl (fun K hK => ?_) AllReadyH.nil)
          go_simp
          refine (concat_any ([] ++ leB h32 4) ex _ _ gv3 _ (by rw [cell_of_row _ _ _ _ _ _ NS.out]; rfl) (by rw [cell_of_row _ _ _ _ _ _ NS.out]; rfl) KA.out (SE.out.below hHeld.1) (by simp [leB_length]) (by simp [leB_length]) LE.out).mono ?_
          rintro e v12 ⟨gk, nk, ck, rfl, hgk, kk, bb⟩
          have GK : Hid (w.heap.size + 1 < gk) := Nat.lt_of_lt_of_le (Array.getElem?_eq_some_iff.1 FT.out).1 hgk
          have KK := Lib.hid kk
          clear kk hgk
          have FT := Lib.hid (row_below FT.out bb)
          have KA := Lib.hid (KA.out.below bb)
          have NS := Lib.hid (row_below NS.out bb)
          have NO := Lib.hid (row_below NO.out bb)
          have hv12 := (show _ ∧ _ from ⟨hHeld.1.trans (bb.mono hHeld.1.size), row_below hHeld.2 bb⟩)
          clear bb hHeld
          go_wp2_with fail
          refine hK.out _ _ hv12 (fun hHeld => ?_)
          clear hK K hv12
          refine held_take (i := 7) (v := (.agg (inL (firstX h32 ex) (.slice (some ⟨gk, 0, none⟩) nk ck)).toArray)) rfl (by kernel_rfl) (by kernel_rfl) (by kernel_rfl) (fun _ _ _ h => h) (yieldsIf_build (by rfl) 70 _ rfl [(0, .agg nullL.toArray), (1, .slice (some ⟨gk, 0, none⟩) nk ck), (2, .int .u32 4294967295)] (by kernel_rfl) _ (by kernel_rfl)) hHeld ?_
          go_frame
          refine wpAnyH_ready (rs := [8]) (by kernel_rfl) (by simp) (held_cons rfl (fun K hK => ?_) AllReadyH.nil)
          rw [if_pos (by rfl)]
          refine wp_slice_one 63 70 (.tmp 16) rfl (inL (firstX h32 ex) (.slice (some ⟨gk, 0, none⟩) nk ck)) rfl Tryz.underlying63 i2 _ hi2 hx0 (by rw [hx1]; rfl) (by show 0 < 35; omega) (by show 35 ≤ _; omega) ?_
          have nf := heap_alloc_new v12 (.cells (inL (firstX h32 ex) (.slice (some ⟨gk, 0, none⟩) nk ck)).toArray 70 (0, 0))
          have bb := (Below.refl v12.heap.size v12).alloc (Nat.le_refl _) (.cells (inL (firstX h32 ex) (.slice (some ⟨gk, 0, none⟩) nk ck)).toArray 70 (0, 0))
          obtain ⟨gv13, hgv13⟩ : ∃ g, g = v12.heap.size := ⟨_, rfl⟩
          generalize hqv13 : World.alloc _ _ = v13
          have ev13 : v12.alloc (.cells (inL (firstX h32 ex) (.slice (some ⟨gk, 0, none⟩) nk ck)).toArray 70 (0, 0)) = v13 := hqv13
          rw [ev13] at nf bb
          rw [← hgv13] at nf ⊢
          have NI := Lib.hid nf
          have GNI : Hid (w.heap.size + 1 < gv13) := by show _ < _; rw [hgv13]; exact (Array.getElem?_eq_some_iff.1 FT.out).1
          have FT := Lib.hid (row_below FT.out bb)
          have KA := Lib.hid (KA.out.below bb)
          have NS := Lib.hid (row_below NS.out bb)
          have NO := Lib.hid (row_below NO.out bb)
          have KK := Lib.hid (KK.out.below bb)
          have hv13 := (show _ ∧ _ from ⟨hHeld.1.trans (bb.mono hHeld.1.size), row_below hHeld.2 bb⟩)
          clear nf bb hqv13 ev13 hgv13 hHeld
          go_frame
          refine hK.out _ _ hv13 (fun hHeld => ?_)
          clear hK K hv13
          refine held_take (i := 13) (v := (.agg ([nV 1, (.slice (some ⟨gv13, 0, none⟩) 1 1), (.slice (some ⟨gv11, 0, none⟩) 1 1), nV 0]).toArray)) rfl (by kernel_rfl) (by kernel_rfl) (by kernel_rfl) (fun _ _ _ h => h) (yieldsIf_build (by rfl) 66 _ rfl [(0, .int .u32 1), (1, (.slice (some ⟨gv13, 0, none⟩) 1 1)), (2, (.slice (some ⟨gv11, 0, none⟩) 1 1))] (by kernel_rfl) _ (by kernel_rfl)) hHeld ?_
          go_frame
          refine wpAnyH_ready (rs := [14]) (by kernel_rfl) (by simp) (held_cons rfl (fun K hK => ?_) AllReadyH.nil)
          rw [if_pos (by rfl)]
          refine wp_store_whole 66 (.tmp 8) (.tmp 22) rfl (w.heap.size + 1) [nV 0, .slice none 0 0, .slice none 0 0, nV 0] [nV 1, (.slice (some ⟨gv13, 0, none⟩) 1 1), (.slice (some ⟨gv11, 0, none⟩) 1 1), nV 0] 66 rfl rfl (rfl) FT.out (by kernel_rfl) (by kernel_rfl) ?_
          intro v14 q1 q2
          have FT := Lib.hid q1
          have NO := Lib.hid (row_far NO.out q2 (by intro h; have := Option.some.inj h; have := GNO.out; omega))
          have KK := Lib.hid (KeyAt.off KK.out (fun sp n cap hv _ hq => by cases hv; have e : w.heap.size + 1 = gk := Option.some.inj hq; have := GK.out; omega) q2)
          have NI := Lib.hid (row_far NI.out q2 (by intro h; have := Option.some.inj h; have := GNI.out; omega))
          have hv14 := (show _ ∧ _ from ⟨hHeld.1.grown q2 hHeld.1.size (fun k hk => by cases hk; omega), row_far hHeld.2 q2 (by intro h; have := Option.some.inj h; omega)⟩)
          clear q1 q2 hHeld
          go_frame
          refine hK.out _ _ hv14 (fun hHeld => ?_)
          clear hK K hv14
          refine wpAnyH_done (by kernel_rfl) ?_ _
          have BZ := Lib.hid hHeld.1
          clear hHeld
          go_wp2_with fail
          refine bodyPost_ret (results_cell_row rfl _ _ (w.heap.size + 1) 66 ([nV 1, (.slice (some ⟨gv13, 0, none⟩) 1 1), (.slice (some ⟨gv11, 0, none⟩) 1 1), nV 0]).toArray (0, 0) _ rfl FT.out Tryz.underlying66 rfl (by kernel_rfl)) rfl ?_
          exact ⟨_, rfl, fun W hW => ⟨⟨by show 1 ≤ _; omega, by show 0 ≤ _; omega⟩, _, _, rfl, insAt_one (row_kps NI.out hW (by have := GNI.out; show _ ≤ _; omega)) (x := firstX h32 ex) (firstX_ok ex H32.out) (KK.out.kps (fun sp n cap hv _ => by cases hv; have := GK.out; show w.heap.size ≤ gk; omega) hW), outsAt_one (row_kps NO.out hW (by have := GNO.out; show _ ≤ _; omega)) (y := ⟨val, lock⟩) ⟨LK.out, VB.out⟩⟩, BZ.out⟩
      · skip
        rw [if_pos (by rfl)]
        refine wp_slice_one 64 111 (.tmp 20) rfl (outL ⟨val, lock⟩) rfl Tryz.underlying64 i3 _ hi3 hv0 (by rw [hv1, LO.out]) (by rw [LO.out]; omega) (by rw [LO.out]; omega) ?_
        have nf := heap_alloc_new v2 (.cells (outL ⟨val, lock⟩).toArray 111 (0, 0))
        have bb := (Below.refl v2.heap.size v2).alloc (Nat.le_refl _) (.cells (outL ⟨val, lock⟩).toArray 111 (0, 0))
        obtain ⟨gv15, hgv15⟩ : ∃ g, g = v2.heap.size := ⟨_, rfl⟩
        generalize hqv15 : World.alloc _ _ = v15
        have ev15 : v2.alloc (.cells (outL ⟨val, lock⟩).toArray 111 (0, 0)) = v15 := hqv15
        rw [ev15] at nf bb
        rw [← hgv15] at nf ⊢
        have NO := Lib.hid nf
        have GNO : Hid (w.heap.size + 1 < gv15) := by show _ < _; rw [hgv15]; exact (Array.getElem?_eq_some_iff.1 FT.out).1
        have FT := Lib.hid (row_below FT.out bb)
        have KA := Lib.hid (KA.out.below bb)
        have hv15 := (show _ ∧ _ from ⟨hHeld.1.trans (bb.mono hHeld.1.size), row_below hHeld.2 bb⟩)
        clear nf bb hqv15 ev15 hgv15 hHeld
        go_frame
        refine hK.out _ _ hv15 (fun hHeld => ?_)
        clear hK K hv15
        refine wpAnyH_ready (rs := [5]) (by kernel_rfl) (by simp) (held_cons rfl (fun K hK => ?_) AllReadyH.nil)
        rw [if_pos (by rfl)]
        refine wp_buildSlice 158 30 2 _ rfl #[.slice s4 n4 c4, .slice se ne ce] i1 (.slice none 0 0) Tryz.underlying158 hi1 hy0 (by rw [hy1]; omega) (by rw [hy1]; omega) (by rw [hy1]; kernel_rfl) ?_
        have nf := heap_alloc_new v15 (.cells #[.slice s4 n4 c4, .slice se ne ce] 30 (0, 0))
        have bb := (Below.refl v15.heap.size v15).alloc (Nat.le_refl _) (.cells #[.slice s4 n4 c4, .slice se ne ce] 30 (0, 0))
        obtain ⟨gv16, hgv16⟩ : ∃ g, g = v15.heap.size := ⟨_, rfl⟩
        generalize hqv16 : World.alloc _ _ = v16
        have ev16 : v15.alloc (.cells #[.slice s4 n4 c4, .slice se ne ce] 30 (0, 0)) = v16 := hqv16
        rw [ev16] at nf bb
        rw [← hgv16] at nf ⊢
        have NS := Lib.hid nf
        have FT := Lib.hid (row_below FT.out bb)
        have KA := Lib.hid (KA.out.below bb)
        have NO := Lib.hid (row_below NO.out bb)
        have hv16 := (show _ ∧ _ from ⟨hHeld.1.trans (bb.mono hHeld.1.size), row_below hHeld.2 bb⟩)
        clear nf bb hqv16 ev16 hgv16 hHeld
        go_frame
        refine hK.out _ _ hv16 (fun hHeld => ?_)
        clear hK K hv16
        refine wpAnyH_ready (rs := [6]) (by kernel_rfl) (by simp) (held_cons rfl (fun K hK => ?_) AllReadyH.nil)
        go_simp
        refine (concat_any ([] ++ leB h32 4) ex _ _ gv16 _ (by rw [cell_of_row _ _ _ _ _ _ NS.out]; rfl) (by rw [cell_of_row _ _ _ _ _ _ NS.out]; rfl) KA.out (SE.out.below hHeld.1) (by simp [leB_length]) (by simp [leB_length]) LE.out).mono ?_
        rintro e v17 ⟨gk, nk, ck, rfl, hgk, kk, bb⟩
        have GK : Hid (w.heap.size + 1 < gk) := Nat.lt_of_lt_of_le (Array.getElem?_eq_some_iff.1 FT.out).1 hgk
        have KK := Lib.hid kk
        clear kk hgk
        have FT := Lib.hid (row_below FT.out bb)
        have KA := Lib.hid (KA.out.below bb)
        have NO := Lib.hid (row_below NO.out bb)
        have NS := Lib.hid (row_below NS.out bb)
        have hv17 := (show _ ∧ _ from ⟨hHeld.1.trans (bb.mono hHeld.1.size), row_below hHeld.2 bb⟩)
        clear bb hHeld
        go_wp2_with fail
        refine hK.out _ _ hv17 (fun hHeld => ?_)
        clear hK K hv17
        refine held_take (i := 7) (v := (.agg (inL (firstX h32 ex) (.slice (some ⟨gk, 0, none⟩) nk ck)).toArray)) rfl (by kernel_rfl) (by kernel_rfl) (by kernel_rfl) (fun _ _ _ h => h) (yieldsIf_build (by rfl) 70 _ rfl [(0, .agg nullL.toArray), (1, .slice (some ⟨gk, 0, none⟩) nk ck), (2, .int .u32 4294967295)] (by kernel_rfl) _ (by kernel_rfl)) hHeld ?_
        go_frame
        refine wpAnyH_ready (rs := [8]) (by kernel_rfl) (by simp) (held_cons rfl (fun K hK => ?_) AllReadyH.nil)
        rw [if_pos (by rfl)]
        refine wp_slice_one 63 70 (.tmp 16) rfl (inL (firstX h32 ex) (.slice (some ⟨gk, 0, none⟩) nk ck)) rfl Tryz.underlying63 i2 _ hi2 hx0 (by rw [hx1]; rfl) (by show 0 < 35; omega) (by show 35 ≤ _; omega) ?_
        have nf := heap_alloc_new v17 (.cells (inL (firstX h32 ex) (.slice (some ⟨gk, 0, none⟩) nk ck)).toArray 70 (0, 0))
        have bb := (Below.refl v17.heap.size v17).alloc (Nat.le_refl _) (.cells (inL (firstX h32 ex) (.slice (some ⟨gk, 0, none⟩) nk ck)).toArray 70 (0, 0))
        obtain ⟨gv18, hgv18⟩ : ∃ g, g = v17.heap.size := ⟨_, rfl⟩
        generalize hqv18 : World.alloc _ _ = v18
        have ev18 : v17.alloc (.cells (inL (firstX h32 ex) (.slice (some ⟨gk, 0, none⟩) nk ck)).toArray 70 (0, 0)) = v18 := hqv18
        rw [ev18] at nf bb
        rw [← hgv18] at nf ⊢
        have NI := Lib.hid nf
        have GNI : Hid (w.heap.size + 1 < gv18) := by show _ < _; rw [hgv18]; exact (Array.getElem?_eq_some_iff.1 FT.out).1
        have FT := Lib.hid (row_below FT.out bb)
        have KA := Lib.hid (KA.out.below bb)
        have NO := Lib.hid (row_below NO.out bb)
        have NS := Lib.hid (row_below NS.out bb)
        have KK := Lib.hid (KK.out.below bb)
        have hv18 := (show _ ∧ _ from ⟨hHeld.1.trans (bb.mono hHeld.1.size), row_below hHeld.2 bb⟩)
        clear nf bb hqv18 ev18 hgv18 hHeld
        go_frame
        refine hK.out _ _ hv18 (fun hHeld => ?_)
        clear hK K hv18
        refine held_take (i := 13) (v := (.agg ([nV 1, (.slice (some ⟨gv18, 0, none⟩) 1 1), (.slice (some ⟨gv15, 0, none⟩) 1 1), nV 0]).toArray)) rfl (by kernel_rfl) (by kernel_rfl) (by kernel_rfl) (fun _ _ _ h => h) (yieldsIf_build (by rfl) 66 _ rfl [(0, .int .u32 1), (1, (.slice (some ⟨gv18, 0, none⟩) 1 1)), (2, (.slice (some ⟨gv15, 0, none⟩) 1 1))] (by kernel_rfl) _ (by kernel_rfl)) hHeld ?_
        go_frame
        refine wpAnyH_ready (rs := [14]) (by kernel_rfl) (by simp) (held_cons rfl (fun K hK => ?_) AllReadyH.nil)
        rw [if_pos (by rfl)]
        refine wp_store_whole 66 (.tmp 8) (.tmp 22) rfl (w.heap.size + 1) [nV 0, .slice none 0 0, .slice none 0 0, nV 0] [nV 1, (.slice (some ⟨gv18, 0, none⟩) 1 1), (.slice (some ⟨gv15, 0, none⟩) 1 1), nV 0] 66 rfl rfl (rfl) FT.out (by kernel_rfl) (by kernel_rfl) ?_
        intro v19 q1 q2
        have FT := Lib.hid q1
        have NO := Lib.hid (row_far NO.out q2 (by intro h; have := Option.some.inj h; have := GNO.out; omega))
        have KK := Lib.hid (KeyAt.off KK.out (fun sp n cap hv _ hq => by cases hv; have e : w.heap.size + 1 = gk := Option.some.inj hq; have := GK.out; omega) q2)
        have NI := Lib.hid (row_far NI.out q2 (by intro h; have := Option.some.inj h; have := GNI.out; omega))
        have hv19 := (show _ ∧ _ from ⟨hHeld.1.grown q2 hHeld.1.size (fun k hk => by cases hk; omega), row_far hHeld.2 q2 (by intro h; have := Option.some.inj h; omega)⟩)
        clear q1 q2 hHeld
        go_frame
        refine hK.out _ _ hv19 (fun hHeld => ?_)
        clear hK K hv19
        refine wpAnyH_done (by kernel_rfl) ?_ _
        have BZ := Lib.hid hHeld.1
        clear hHeld
        go_wp2_with fail
        refine bodyPost_ret (results_cell_row rfl _ _ (w.heap.size + 1) 66 ([nV 1, (.slice (some ⟨gv18, 0, none⟩) 1 1), (.slice (some ⟨gv15, 0, none⟩) 1 1), nV 0]).toArray (0, 0) _ rfl FT.out Tryz.underlying66 rfl (by kernel_rfl)) rfl ?_
        exact ⟨_, rfl, fun W hW => ⟨⟨by show 1 ≤ _; omega, by show 0 ≤ _; omega⟩, _, _, rfl, insAt_one (row_kps NI.out hW (by have := GNI.out; show _ ≤ _; omega)) (x := firstX h32 ex) (firstX_ok ex H32.out) (KK.out.kps (fun sp n cap hv _ => by cases hv; have := GK.out; show w.heap.size ≤ gk; omega) hW), outsAt_one (row_kps NO.out hW (by have := GNO.out; show _ ≤ _; omega)) (y := ⟨val, lock⟩) ⟨LK.out, VB.out⟩⟩, BZ.out⟩
    · skip
      rw [if_pos (by rfl)]
      refine wp_slice_one 64 111 (.tmp 20) rfl (outL ⟨val, lock⟩) rfl Tryz.underlying64 i3 _ hi3 hv0 (by rw [hv1, LO.out]) (by rw [LO.out]; omega) (by rw [LO.out]; omega) ?_
      have nf := heap_alloc_new v1 (.cells (outL ⟨val, lock⟩).toArray 111 (0, 0))
      have bb := (Below.refl v1.heap.size v1).alloc (Nat.le_refl _) (.cells (outL ⟨val, lock⟩).toArray 111 (0, 0))
      obtain ⟨gv20, hgv20⟩ : ∃ g, g = v1.heap.size := ⟨_, rfl⟩
      generalize hqv20 : World.alloc _ _ = v20
      have ev20 : v1.alloc (.cells (outL ⟨val, lock⟩).toArray 111 (0, 0)) = v20 := hqv20
      rw [ev20] at nf bb
      rw [← hgv20] at nf ⊢
      have NO := Lib.hid nf
      have GNO : Hid (w.heap.size + 1 < gv20) := by show _ < _; rw [hgv20]; exact (Array.getElem?_eq_some_iff.1 FT.out).1
      have FT := Lib.hid (row_below FT.out bb)
      have hv20 := (show _ ∧ _ from ⟨hHeld.1.trans (bb.mono hHeld.1.size), row_below hHeld.2 bb⟩)
      clear nf bb hqv20 ev20 hgv20 hHeld
      go_frame
      refine hK.out _ _ hv20 (fun hHeld => ?_)
      clear hK K hv20
      refine wpAnyH_ready (rs := [3]) (by kernel_rfl) (by simp) (held_cons rfl (fun K hK => ?_) AllReadyH.nil)
      go_simp
      refine (four_new [] _ h32 _ (nil_src _) (by simp) H32.out).mono ?_
      rintro e v21 ⟨s4, n4, c4, rfl, hn4, hc4⟩
      have KA := Lib.hid hc4.src
      have bb := hc4.2
      clear hn4 hc4
      have FT := Lib.hid (row_below FT.out bb)
      have NO := Lib.hid (row_below NO.out bb)
      have hv21 := (show _ ∧ _ from ⟨hHeld.1.trans (bb.mono hHeld.1.size), row_below hHeld.2 bb⟩)
      clear bb hHeld
      go_wp2_with fail
      refine hK.out _ _ hv21 (fun hHeld => ?_)
      clear hK K hv21
      refine wpAnyH_ready (rs := [5]) (by kernel_rfl) (by simp) (held_cons rfl (fun K hK => ?_) AllReadyH.nil)
      rw [if_pos (by rfl)]
      refine wp_buildSlice 158 30 2 _ rfl #[.slice s4 n4 c4, .slice se ne ce] i1 (.slice none 0 0) Tryz.underlying158 hi1 hy0 (by rw [hy1]; omega) (by rw [hy1]; omega) (by rw [hy1]; kernel_rfl) ?_
      have nf := heap_alloc_new v21 (.cells #[.slice s4 n4 c4, .slice se ne ce] 30 (0, 0))
      have bb := (Below.refl v21.heap.size v21).alloc (Nat.le_refl _) (.cells #[.slice s4 n4 c4, .slice se ne ce] 30 (0, 0))
      obtain ⟨gv22, hgv22⟩ : ∃ g, g = v21.heap.size := ⟨_, rfl⟩
      generalize hqv22 : World.alloc _ _ = v22
      have ev22 : v21.alloc (.cells #[.slice s4 n4 c4, .slice se ne ce] 30 (0, 0)) = v22 := hqv22
      rw [ev22] at nf bb
      rw [← hgv22] at nf ⊢
      have NS := Lib.hid nf
      have FT := Lib.hid (row_below FT.out bb)
      have NO := Lib.hid (row_below NO.out bb)
      have KA := Lib.hid (KA.out.below bb)
      have hv22 := (show _ ∧ _ from ⟨hHeld.1.trans (bb.mono hHeld.1.size), row_below hHeld.2 bb⟩)
      clear nf bb hqv22 ev22 hgv22 hHeld
      go_frame
      refine hK.out _ _ hv22 (fun hHeld => ?_)
      clear hK K hv22
      refine wpAnyH_ready (rs := [6]) (by kernel_rfl) (by simp) (held_cons rfl (fun K hK => ?_) AllReadyH.nil)
      go_simp
      refine (concat_any ([] ++ leB h32 4) ex _ _ gv22 _ (by rw [cell_of_row _ _ _ _ _ _ NS.out]; rfl) (by rw [cell_of_row _ _ _ _ _ _ NS.out]; rfl) KA.out (SE.out.below hHeld.1) (by simp [leB_length]) (by simp [leB_length]) LE.out).mono ?_
      rintro e v23 ⟨gk, nk, ck, rfl, hgk, kk, bb⟩
      have GK : Hid (w.heap.size + 1 < gk) := Nat.lt_of_lt_of_le (Array.getElem?_eq_some_iff.1 FT.out).1 hgk
      have KK := Lib.hid kk
      clear kk hgk
      have FT := Lib.hid (row_below FT.out bb)
      have NO := Lib.hid (row_below NO.out bb)
      have KA := Lib.hid (KA.out.below bb)
      have NS := Lib.hid (row_below NS.out bb)
      have hv23 := (show _ ∧ _ from ⟨hHeld.1.trans (bb.mono hHeld.1.size), row_below hHeld.2 bb⟩)
      clear bb hHeld
      go_wp2_with fail
      refine hK.out _ _ hv23 (fun hHeld => ?_)
      clear hK K hv23
      refine held_take (i := 7) (v := (.agg (inL (firstX h32 ex) (.slice (some ⟨gk, 0, none⟩) nk ck)).toArray)) rfl (by kernel_rfl) (by kernel_rfl) (by kernel_rfl) (fun _ _ _ h => h) (yieldsIf_build (by rfl) 70 _ rfl [(0, .agg nullL.toArray), (1, .slice (some ⟨gk, 0, none⟩) nk ck), (2, .int .u32 4294967295)] (by kernel_rfl) _ (by kernel_rfl)) hHeld ?_
      go_frame
      refine wpAnyH_ready (rs := [8]) (by kernel_rfl) (by simp) (held_cons rfl (fun K hK => ?_) AllReadyH.nil)
      rw [if_pos (by rfl)]
      refine wp_slice_one 63 70 (.tmp 16) rfl (inL (firstX h32 ex) (.slice (some ⟨gk, 0, none⟩) nk ck)) rfl Tryz.underlying63 i2 _ hi2 hx0 (by rw [hx1]; rfl) (by show 0 < 35; omega) (by show 35 ≤ _; omega) ?_
      have nf := heap_alloc_new v23 (.cells (inL (firstX h32 ex) (.slice (some ⟨gk, 0, none⟩) nk ck)).toArray 70 (0, 0))
      have bb := (Below.refl v23.heap.size v23).alloc (Nat.le_refl _) (.cells (inL (firstX h32 ex) (.slice (some ⟨gk, 0, none⟩) nk ck)).toArray 70 (0, 0))
      obtain ⟨gv24, hgv24⟩ : ∃ g, g = v23.heap.size := ⟨_, rfl⟩
      generalize hqv24 : World.alloc _ _ = v24
      have ev24 : v23.alloc (.cells (inL (firstX h32 ex) (.slice (some ⟨gk, 0, none⟩) nk ck)).toArray 70 (0, 0)) = v24 := hqv24
      rw [ev24] at nf bb
      rw [← hgv24] at nf ⊢
      have NI := Lib.hid nf
      have GNI : Hid (w.heap.size + 1 < gv24) := by show _ < _; rw [hgv24]; exact (Array.getElem?_eq_some_iff.1 FT.out).1
      have FT := Lib.hid (row_below FT.out bb)
      have NO := Lib.hid (row_below NO.out bb)
      have KA := Lib.hid (KA.out.below bb)
      have NS := Lib.hid (row_below NS.out bb)
      have KK := Lib.hid (KK.out.below bb)
      have hv24 := (show _ ∧ _ from ⟨hHeld.1.trans (bb.mono hHeld.1.size), row_below hHeld.2 bb⟩)
      clear nf bb hqv24 ev24 hgv24 hHeld
      go_frame
      refine hK.out _ _ hv24 (fun hHeld => ?_)
      clear hK K hv24
      refine held_take (i := 13) (v := (.agg ([nV 1, (.slice (some ⟨gv24, 0, none⟩) 1 1), (.slice (some ⟨gv20, 0, none⟩) 1 1), nV 0]).toArray)) rfl (by kernel_rfl) (by kernel_rfl) (by kernel_rfl) (fun _ _ _ h => h) (yieldsIf_build (by rfl) 66 _ rfl [(0, .int .u32 1), (1, (.slice (some ⟨gv24, 0, none⟩) 1 1)), (2, (.slice (some ⟨gv20, 0, none⟩) 1 1))] (by kernel_rfl) _ (by kernel_rfl)) hHeld ?_
      go_frame
      refine wpAnyH_ready (rs := [14]) (by kernel_rfl) (by simp) (held_cons rfl (fun K hK => ?_) AllReadyH.nil)
      rw [if_pos (by rfl)]
      refine wp_store_whole 66 (.tmp 8) (.tmp 22) rfl (w.heap.size + 1) [nV 0, .slice none 0 0, .slice none 0 0, nV 0] [nV 1, (.slice (some ⟨gv24, 0, none⟩) 1 1), (.slice (some ⟨gv20, 0, none⟩) 1 1), nV 0] 66 rfl rfl (rfl) FT.out (by kernel_rfl) (by kernel_rfl) ?_
      intro v25 q1 q2
      have FT := Lib.hid q1
      have NO := Lib.hid (row_far NO.out q2 (by intro h; have := Option.some.inj h; have := GNO.out; omega))
      have KK := Lib.hid (KeyAt.off KK.out (fun sp n cap hv _ hq => by cases hv; have e : w.heap.size + 1 = gk := Option.some.inj hq; have := GK.out; omega) q2)
      have NI := Lib.hid (row_far NI.out q2 (by intro h; have := Option.some.inj h; have := GNI.out; omega))
      have hv25 := (show _ ∧ _ from ⟨hHeld.1.grown q2 hHeld.1.size (fun k hk => by cases hk; omega), row_far hHeld.2 q2 (by intro h; have := Option.some.inj h; omega)⟩)
      clear q1 q2 hHeld
      go_frame
      refine hK.out _ _ hv25 (fun hHeld => ?_)
      clear hK K hv25
      refine wpAnyH_done (by kernel_rfl) ?_ _
      have BZ := Lib.hid hHeld.1
      clear hHeld
      go_wp2_with fail
      refine bodyPost_ret (results_cell_row rfl _ _ (w.heap.size + 1) 66 ([nV 1, (.slice (some ⟨gv24, 0, none⟩) 1 1), (.slice (some ⟨gv20, 0, none⟩) 1 1), nV 0]).toArray (0, 0) _ rfl FT.out Tryz.underlying66 rfl (by kernel_rfl)) rfl ?_
      exact ⟨_, rfl, fun W hW => ⟨⟨by show 1 ≤ _; omega, by show 0 ≤ _; omega⟩, _, _, rfl, insAt_one (row_kps NI.out hW (by have := GNI.out; show _ ≤ _; omega)) (x := firstX h32 ex) (firstX_ok ex H32.out) (KK.out.kps (fun sp n cap hv _ => by cases hv; have := GK.out; show w.heap.size ≤ gk; omega) hW), outsAt_one (row_kps NO.out hW (by have := GNO.out; show _ ≤ _; omega)) (y := ⟨val, lock⟩) ⟨LK.out, VB.out⟩⟩, BZ.out⟩
  · skip
    rw [if_pos (by rfl)]
    refine wp_slice_one 64 111 (.tmp 20) rfl (outL ⟨val, lock⟩) rfl Tryz.underlying64 i3 _ hi3 hv0 (by rw [hv1, LO.out]) (by rw [LO.out]; omega) (by rw [LO.out]; omega) ?_
    have nf := heap_alloc_new wd (.cells (outL ⟨val, lock⟩).toArray 111 (0, 0))
    have bb := (Below.refl wd.heap.size wd).alloc (Nat.le_refl _) (.cells (outL ⟨val, lock⟩).toArray 111 (0, 0))
    obtain ⟨gv26, hgv26⟩ : ∃ g, g = wd.heap.size := ⟨_, rfl⟩
    generalize hqv26 : World.alloc _ _ = v26
    have ev26 : wd.alloc (.cells (outL ⟨val, lock⟩).toArray 111 (0, 0)) = v26 := hqv26
    rw [ev26] at nf bb
    rw [← hgv26] at nf ⊢
    have NO := Lib.hid nf
    have GNO : Hid (w.heap.size + 1 < gv26) := by show _ < _; rw [hgv26]; exact (Array.getElem?_eq_some_iff.1 FT.out).1
    have FT := Lib.hid (row_below FT.out bb)
    have hv26 := (show _ ∧ _ from ⟨hHeld.1.trans (bb.mono hHeld.1.size), row_below hHeld.2 bb⟩)
    clear nf bb hqv26 ev26 hgv26 hHeld
    go_frame
    refine hK.out _ _ hv26 (fun hHeld => ?_)
    clear hK K hv26
    refine wpAnyH_ready (rs := [0]) (by kernel_rfl) (by simp) (held_cons rfl (fun K hK => ?_) AllReadyH.nil)
    go_simp
    refine (null_any _).mono ?_
    rintro e v27 ⟨rfl, bb⟩
    have FT := Lib.hid (row_below FT.out bb)
    have NO := Lib.hid (row_below NO.out bb)
    have hv27 := (show _ ∧ _ from ⟨hHeld.1.trans (bb.mono hHeld.1.size), row_below hHeld.2 bb⟩)
    clear bb hHeld
    go_wp2_with fail
    refine hK.out _ _ hv27 (fun hHeld => ?_)
    clear hK K hv27
    refine wpAnyH_ready (rs := [3]) (by kernel_rfl) (by simp) (held_cons rfl (fun K hK => ?_) AllReadyH.nil)
    go_simp
    refine (four_new [] _ h32 _ (nil_src _) (by simp) H32.out).mono ?_
    rintro e v28 ⟨s4, n4, c4, rfl, hn4, hc4⟩
    have KA := Lib.hid hc4.src
    have bb := hc4.2
    clear hn4 hc4
    have FT := Lib.hid (row_below FT.out bb)
    have NO := Lib.hid (row_below NO.out bb)
    have hv28 := (show _ ∧ _ from ⟨hHeld.1.trans (bb.mono hHeld.1.size), row_below hHeld.2 bb⟩)
    clear bb hHeld
    go_wp2_with fail
    refine hK.out _ _ hv28 (fun hHeld => ?_)
    clear hK K hv28
    refine wpAnyH_ready (rs := [5]) (by kernel_rfl) (by simp) (held_cons rfl (fun K hK => ?_) AllReadyH.nil)
    rw [if_pos (by rfl)]
    refine wp_buildSlice 158 30 2 _ rfl #[.slice s4 n4 c4, .slice se ne ce] i1 (.slice none 0 0) Tryz.underlying158 hi1 hy0 (by rw [hy1]; omega) (by rw [hy1]; omega) (by rw [hy1]; kernel_rfl) ?_
    have nf := heap_alloc_new v28 (.cells #[.slice s4 n4 c4, .slice se ne ce] 30 (0, 0))
    have bb := (Below.refl v28.heap.size v28).alloc (Nat.le_refl _) (.cells #[.slice s4 n4 c4, .slice se ne ce] 30 (0, 0))
    obtain ⟨gv29, hgv29⟩ : ∃ g, g = v28.heap.size := ⟨_, rfl⟩
    generalize hqv29 : World.alloc _ _ = v29
    have ev29 : v28.alloc (.cells #[.slice s4 n4 c4, .slice se ne ce] 30 (0, 0)) = v29 := hqv29
    rw [ev29] at nf bb
    rw [← hgv29] at nf ⊢
    have NS := Lib.hid nf
    have FT := Lib.hid (row_below FT.out bb)
    have NO := Lib.hid (row_below NO.out bb)
    have KA := Lib.hid (KA.out.below bb)
    have hv29 := (show _ ∧ _ from ⟨hHeld.1.trans (bb.mono hHeld.1.size), row_below hHeld.2 bb⟩)
    clear nf bb hqv29 ev29 hgv29 hHeld
    go_frame
    refine hK.out _ _ hv29 (fun hHeld => ?_)
    clear hK K hv29
    refine wpAnyH_ready (rs := [6]) (by kernel_rfl) (by simp) (held_cons rfl (fun K hK => ?_) AllReadyH.nil)
    go_simp
    refine (concat_any ([] ++ leB h32 4) ex _ _ gv29 _ (by rw [cell_of_row _ _ _ _ _ _ NS.out]; rfl) (by rw [cell_of_row _ _ _ _ _ _ NS.out]; rfl) KA.out (SE.out.below hHeld.1) (by simp [leB_length]) (by simp [leB_length]) LE.out).mono ?_
    rintro e v30 ⟨gk, nk, ck, rfl, hgk, kk, bb⟩
    have GK : Hid (w.heap.size + 1 < gk) := Nat.lt_of_lt_of_le (Array.getElem?_eq_some_iff.1 FT.out).1 hgk
    have KK := Lib.hid kk
    clear kk hgk
    have FT := Lib.hid (row_below FT.out bb)
    have NO := Lib.hid (row_below NO.out bb)
    have KA := Lib.hid (KA.out.below bb)
    have NS := Lib.hid (row_below NS.out bb)
    have hv30 := (show _ ∧ _ from ⟨hHeld.1.trans (bb.mono hHeld.1.size), row_below hHeld.2 bb⟩)
    clear bb hHeld
    go_wp2_with fail
    refine hK.out _ _ hv30 (fun hHeld => ?_)
    clear hK K hv30
    refine held_take (i := 7) (v := (.agg (inL (firstX h32 ex) (.slice (some ⟨gk, 0, none⟩) nk ck)).toArray)) rfl (by kernel_rfl) (by kernel_rfl) (by kernel_rfl) (fun _ _ _ h => h) (yieldsIf_build (by rfl) 70 _ rfl [(0, .agg nullL.toArray), (1, .slice (some ⟨gk, 0, none⟩) nk ck), (2, .int .u32 4294967295)] (by kernel_rfl) _ (by kernel_rfl)) hHeld ?_
    go_frame
    refine wpAnyH_ready (rs := [8]) (by kernel_rfl) (by simp) (held_cons rfl (fun K hK => ?_) AllReadyH.nil)
    rw [if_pos (by rfl)]
    refine wp_slice_one 63 70 (.tmp 16) rfl (inL (firstX h32 ex) (.slice (some ⟨gk, 0, none⟩) nk ck)) rfl Tryz.underlying63 i2 _ hi2 hx0 (by rw [hx1]; rfl) (by show 0 < 35; omega) (by show 35 ≤ _; omega) ?_
    have nf := heap_alloc_new v30 (.cells (inL (firstX h32 ex) (.slice (some ⟨gk, 0, none⟩) nk ck)).toArray 70 (0, 0))
    have bb := (Below.refl v30.heap.size v30).alloc (Nat.le_refl _) (.cells (inL (firstX h32 ex) (.slice (some ⟨gk, 0, none⟩) nk ck)).toArray 70 (0, 0))
    obtain ⟨gv31, hgv31⟩ : ∃ g, g = v30.heap.size := ⟨_, rfl⟩
    generalize hqv31 : World.alloc _ _ = v31
    have ev31 : v30.alloc (.cells (inL (firstX h32 ex) (.slice (some ⟨gk, 0, none⟩) nk ck)).toArray 70 (0, 0)) = v31 := hqv31
    rw [ev31] at nf bb
    rw [← hgv31] at nf ⊢
    have NI := Lib.hid nf
    have GNI : Hid (w.heap.size + 1 < gv31) := by show _ < _; rw [hgv31]; exact (Array.getElem?_eq_some_iff.1 FT.out).1
    have FT := Lib.hid (row_below FT.out bb)
    have NO := Lib.hid (row_below NO.out bb)
    have KA := Lib.hid (KA.out.below bb)
    have NS := Lib.hid (row_below NS.out bb)
    have KK := Lib.hid (KK.out.below bb)
    have hv31 := (show _ ∧ _ from ⟨hHeld.1.trans (bb.mono hHeld.1.size), row_below hHeld.2 bb⟩)
    clear nf bb hqv31 ev31 hgv31 hHeld
    go_frame
    refine hK.out _ _ hv31 (fun hHeld => ?_)
    clear hK K hv31
    refine held_take (i := 13) (v := (.agg ([nV 1, (.slice (some ⟨gv31, 0, none⟩) 1 1), (.slice (some ⟨gv26, 0, none⟩) 1 1), nV 0]).toArray)) rfl (by kernel_rfl) (by kernel_rfl) (by kernel_rfl) (fun _ _ _ h => h) (yieldsIf_build (by rfl) 66 _ rfl [(0, .int .u32 1), (1, (.slice (some ⟨gv31, 0, none⟩) 1 1)), (2, (.slice (some ⟨gv26, 0, none⟩) 1 1))] (by kernel_rfl) _ (by kernel_rfl)) hHeld ?_
    go_frame
    refine wpAnyH_ready (rs := [14]) (by kernel_rfl) (by simp) (held_cons rfl (fun K hK => ?_) AllReadyH.nil)
    rw [if_pos (by rfl)]
    refine wp_store_whole 66 (.tmp 8) (.tmp 22) rfl (w.heap.size + 1) [nV 0, .slice none 0 0, .slice none 0 0, nV 0] [nV 1, (.slice (some ⟨gv31, 0, none⟩) 1 1), (.slice (some ⟨gv26, 0, none⟩) 1 1), nV 0] 66 rfl rfl (rfl) FT.out (by kernel_rfl) (by kernel_rfl) ?_
    intro v32 q1 q2
    have FT := Lib.hid q1
    have NO := Lib.hid (row_far NO.out q2 (by intro h; have := Option.some.inj h; have := GNO.out; omega))
    have KK := Lib.hid (KeyAt.off KK.out (fun sp n cap hv _ hq => by cases hv; have e : w.heap.size + 1 = gk := Option.some.inj hq; have := GK.out; omega) q2)
    have NI := Lib.hid (row_far NI.out q2 (by intro h; have := Option.some.inj h; have := GNI.out; omega))
    have hv32 := (show _ ∧ _ from ⟨hHeld.1.grown q2 hHeld.1.size (fun k hk => by cases hk; omega), row_far hHeld.2 q2 (by intro h; have := Option.some.inj h; omega)⟩)
    clear q1 q2 hHeld
    go_frame
    refine hK.out _ _ hv32 (fun hHeld => ?_)
    clear hK K hv32
    refine wpAnyH_done (by kernel_rfl) ?_ _
    have BZ := Lib.hid hHeld.1
    clear hHeld
    go_wp2_with fail
    refine bodyPost_ret (results_cell_row rfl _ _ (w.heap.size + 1) 66 ([nV 1, (.slice (some ⟨gv31, 0, none⟩) 1 1), (.slice (some ⟨gv26, 0, none⟩) 1 1), nV 0]).toArray (0, 0) _ rfl FT.out Tryz.underlying66 rfl (by kernel_rfl)) rfl ?_
    exact ⟨_, rfl, fun W hW => ⟨⟨by show 1 ≤ _; omega, by show 0 ≤ _; omega⟩, _, _, rfl, insAt_one (row_kps NI.out hW (by have := GNI.out; show _ ≤ _; omega)) (x := firstX h32 ex) (firstX_ok ex H32.out) (KK.out.kps (fun sp n cap hv _ => by cases hv; have := GK.out; show w.heap.size ≤ gk; omega) hW), outsAt_one (row_kps NO.out hW (by have := GNO.out; show _ ≤ _; omega)) (y := ⟨val, lock⟩) ⟨LK.out, VB.out⟩⟩, BZ.out⟩
end Go.Proofs.YtdamhoagiooicaaGreatDoor.Sha

/-
  spend.Lock answers a key's digest; spend.Opens tells whether a key of at most 80 bytes has that lock. Nothing that was there turns. Conditions: the bytes lie where the slice says, the table is there, fewer than 2^59 bytes.
-/
namespace Go.Proofs.YtdamhoagiooicaaGreatDoor.Sha
open Go Go.RowKit
set_option maxRecDepth 100000 in
theorem lock_any (bs : List UInt8) (v : Value) (w : World) (hk : KTab w) (hsrc : SrcB w v bs) (hlen : bs.length ≤ 576460752303423487) :
    Calls Tryz.prog 68 #[v] w fun e w' => e = .returned (.agg ((sha bs).map bV).toArray) ∧ Below w.heap.size w w' := by
  have hl : ((sha bs).map bV).toArray.size = 32 := by simp [sha_length]
  have HL := Lib.hid hl
  have HK := Lib.hid hk
  have HS := Lib.hid hsrc
  clear hk hsrc hl
  go_enter Tryz.func68, Tryz.ntmps68
  go_wp2_with fail
  have b1 : Below w.heap.size w (w.alloc (.cells (List.replicate 32 (bV 0)).toArray 24)) := (Below.refl _ _).alloc (Nat.le_refl _) _
  have f1 : (w.alloc (.cells (List.replicate 32 (bV 0)).toArray 24)).heap[w.heap.size]? = some (.cells (List.replicate 32 (bV 0)).toArray 24 (0, 0)) := heap_alloc_new _ _
  have z1 : w.heap.size < (w.alloc (.cells (List.replicate 32 (bV 0)).toArray 24)).heap.size := by simp
  generalize hw1 : World.alloc _ _ = w1
  have e1 : w.alloc (.cells (List.replicate 32 (bV 0)).toArray 24) = w1 := hw1
  rw [e1] at b1 f1 z1
  clear hw1 e1
  refine (sha_any bs v w1 (HK.out.below b1) (HS.out.below b1) hlen).mono ?_
  rintro e w2 ⟨rfl, hb2⟩
  have f2 : w2.heap[w.heap.size]? = some (.cells (List.replicate 32 (bV 0)).toArray 24 (0, 0)) := row_below f1 hb2
  have F2 := Lib.hid f2
  have B2 := Lib.hid (b1.trans (hb2.mono b1.size))
  clear f2 hb2 f1 b1 z1
  go_wp2_with ((with_reducible show wpList _ _ _ _ _ _); refine wpList_store_row rfl 24 (.tmp 2) (.tmp 4) rfl w.heap.size ((sha bs).map bV).toArray rfl rfl 24 _ F2.out (by rw [HL.out]; kernel_rfl) (by rw [HL.out]; rfl) (bV_one _) ?_; go_frame)
  refine bodyPost_ret (results_cell_row rfl _ _ w.heap.size 24 ((sha bs).map bV).toArray (0, 0) (.array 32 5) rfl (setRow_heap _ _ _ _ _ _ F2.out) Tryz.underlying24 rfl (by rw [HL.out]; kernel_rfl)) rfl ⟨rfl, below_setRow B2.out (Nat.le_refl _) _⟩
/-- Opens. -/
def opensL (bs l : List UInt8) : Bool := decide (bs.length ≤ 80) && decide (sha bs = l)
end Go.Proofs.YtdamhoagiooicaaGreatDoor.Sha

/-
  Package block makes the block that each chain begins with. New memory; nothing that was there turns. Condition: the table is there.
-/
namespace Go.Proofs.YtdamhoagiooicaaGreatDoor.Sha
open Go Go.RowKit
def startH : THd := ⟨1, zH, zH, 1000, 1, 0⟩
def startT : TTx := firstT 0 0 (sha []) []
/-- The block that each chain begins with, its root not yet set. -/
def startX0 : TBlk := ⟨startH, [startT]⟩
def startX : TBlk := ⟨{ startH with root := blRoot startX0 }, [startT]⟩
theorem startH_ok : HdOk startH := ⟨by decide, rfl, rfl, by decide, by decide, by decide⟩
theorem startX_ok : HdOk startX.head := ⟨by decide, rfl, blRoot_length startX0, by decide, by decide, by decide⟩
theorem firstT_came {h32 val : Nat} {lock ex : List UInt8} (h1 : h32 ≤ 4294967295) (hv : val ≤ 18446744073709551615) (hl : lock.length = 32) (he : ex.length ≤ 99000) : TxSmall (firstT h32 val lock ex) := by
  refine ⟨⟨⟨by show 1 ≤ _; omega, by show 0 ≤ _; omega⟩, ?_, ?_, ?_, by simp [firstT], by simp [firstT]⟩, by simp [firstT], by simp [firstT], ?_⟩
  · intro y hy
    simp only [firstT, List.mem_singleton] at hy
    rw [hy]
    exact firstX_ok ex h1
  · intro y hy
    simp only [firstT, List.mem_singleton] at hy
    rw [hy]
    exact ⟨hl, hv⟩
  · intro y hy
    simp only [firstT, List.mem_singleton] at hy
    rw [hy]
    simp only [firstX, List.length_append, leB_length]
    omega
  · intro y hy
    simp only [firstT, List.mem_singleton] at hy
    rw [hy]
    simp only [firstX, List.length_append, leB_length]
    omega
theorem startT_small : TxSmall startT := firstT_came (by omega) (by omega) (sha_length _) (by simp)
theorem startX0_small : BlkSmall startX0 := ⟨fun t ht => by simp only [startX0, List.mem_singleton] at ht; rw [ht]; exact startT_small, by simp [startX0]⟩
theorem startX_small : BlkSmall startX := ⟨fun t ht => by simp only [startX, List.mem_singleton] at ht; rw [ht]; exact startT_small, by simp [startX]⟩
set_option maxHeartbeats 4000000 in
set_option maxRecDepth 100000 in
theorem blstart_any (w : World) (hk : KTab w) :
    Calls Tryz.prog 29 #[] w fun e w' => ∃ v, e = .returned v ∧ BlkAt w' v startX ∧ Below w.heap.size w w' := by
  obtain ⟨i0, hi, hz0, hz1, hz2⟩ := info_parts info_txc
  have HK := Lib.hid hk
  have LC : Hid (∀ W, KTab W → Calls Tryz.prog 68 #[.slice none 0 0] W fun e w' => e = .returned (.agg ((sha []).map bV).toArray) ∧ Below W.heap.size W w') := fun W hW => lock_any [] _ W hW (nil_src _) (by simp)
  have FC : Hid (∀ W, Calls Tryz.prog 67 #[.int .i64 0, .int .u64 0, .agg ((sha []).map bV).toArray, .slice none 0 0] W fun e w' => ∃ v', e = .returned v' ∧ TxNew W w' v' startT ∧ Below W.heap.size W w') := fun W =>
    blfirst_any 0 0 0 (sha []) [] (.slice none 0 0) W (by decide) (by omega) (by omega) (sha_length _) (nil_src _) (by simp)
  obtain ⟨lk, hlk⟩ : ∃ lk, lk = ((sha []).map bV).toArray := ⟨_, rfl⟩
  rw [← hlk] at LC FC
  clear hk hlk
  go_enter Tryz.func29, Tryz.ntmps29
  go_upto_region 1 with fail
  have f0 := heap_alloc_new w (.cells Tryz.zeroCells29 29 (0, 0))
  have b0 := (Below.refl w.heap.size w).alloc (Nat.le_refl _) (.cells Tryz.zeroCells29 29 (0, 0))
  generalize hw1 : World.alloc _ _ = w1
  have e1 : w.alloc (.cells Tryz.zeroCells29 29 (0, 0)) = w1 := hw1
  rw [e1] at f0 b0
  have F0 := Lib.hid f0
  have B0 := Lib.hid b0
  clear f0 b0 hw1 e1
  go_wp2_with ((with_reducible show wpList _ _ _ _ _ _); refine wpList_buildTo rfl 26 _ rfl _ rfl (hdL startH).toArray (by kernel_rfl) ?_; go_frame)
  refine (LC.out w1 (HK.out.below B0.out)).mono ?_
  rintro e w2 ⟨rfl, hb2⟩
  have B2 := Lib.hid (B0.out.trans (hb2.mono B0.out.size))
  have F2 := Lib.hid (row_below F0.out hb2)
  clear hb2
  go_wp2_with fail
  refine (FC.out w2).mono ?_
  rintro e w3 ⟨v3, rfl, ht3, hb3⟩
  have B3 := Lib.hid (B2.out.trans (hb3.mono B2.out.size))
  have F3 := Lib.hid (row_below F2.out hb3)
  have N3 := Lib.hid hb3
  have TA := Lib.hid ht3
  obtain ⟨_, iv, ov, rfl, _, _⟩ := ht3.at
  have LW2 : Hid (w.heap.size < w2.heap.size) := (Array.getElem?_eq_some_iff.1 F2.out).1
  clear hb3
  have CT : Hid ((txL startT iv ov).length = 4) := rfl
  obtain ⟨ct, hct⟩ : ∃ ct, ct = txL startT iv ov := ⟨_, rfl⟩
  rw [← hct] at CT TA ⊢
  have HCT := Lib.hid hct
  clear hct
  have ONE : Hid ((blL startH (.slice (some ⟨w3.heap.size, 0, none⟩) 1 1)).toArray.all (·.oneCell') = true) := blL_one rfl
  have HGT : Hid (∀ g, (blL startH (.slice (some ⟨g, 0, none⟩) 1 1)).toArray.all (·.oneCell') = true) := fun g => blL_one rfl
  have HGS : Hid (∀ g, (blL startH (.slice (some ⟨g, 0, none⟩) 1 1)).toArray.size = 69) := fun g => blL_size startH_ok _
  go_upto_region 2 with ((with_reducible show wpList _ _ _ _ _ _); first | (refine wpList_slice_one rfl 27 66 (.tmp 4) rfl ct rfl Tryz.underlying27 i0 _ hi hz0 (by rw [hz1, CT.out]) (by rw [CT.out]; omega) (by rw [CT.out]; omega) ?_; have nf := heap_alloc_new w3 (.cells (ct).toArray 66 (0, 0)); have bb := (Below.refl w3.heap.size w3).alloc (Nat.le_refl _) (.cells (ct).toArray 66 (0, 0)); obtain ⟨gt, hgt⟩ : ∃ g, g = w3.heap.size := ⟨_, rfl⟩; generalize hq : World.alloc _ _ = w4; have e2 : w3.alloc (.cells (ct).toArray 66 (0, 0)) = w4 := hq; rw [e2] at nf bb; rw [← hgt] at nf ⊢; have NT := Lib.hid nf; have B4 := Lib.hid (B3.out.trans (bb.mono B3.out.size)); have F4 := Lib.hid (row_below F3.out bb); have GTL := Lib.hid ((show w2.heap.size ≤ gt by rw [hgt]; exact N3.out.size)); have TA4 := Lib.hid (TA.out.on (Kps.new bb)); clear nf bb hq e2 hgt; go_frame) | (refine wpList_buildTo rfl 29 _ rfl _ rfl (blL startH (.slice (some ⟨gt, 0, none⟩) 1 1)).toArray (by kernel_rfl) ?_; obtain ⟨cs, hcs⟩ : ∃ cs, cs = blL startH (.slice (some ⟨gt, 0, none⟩) 1 1) := ⟨_, rfl⟩; have ON := Lib.hid (HGT.out gt); have LS := Lib.hid (HGS.out gt); rw [← hcs] at ON LS ⊢; have HCS := Lib.hid hcs; clear hcs HGT HGS; go_frame) | (refine wpList_store_row rfl 29 (.tmp 1) (.tmp 6) rfl w4.heap.size cs.toArray rfl rfl 29 _ (heap_alloc_new _ _) (by rw [LS.out]; kernel_rfl) (by rw [LS.out]; kernel_rfl) ON.out ?_; go_frame))
  obtain ⟨g5, hg5⟩ : ∃ g5, g5 = w4.heap.size := ⟨_, rfl⟩
  obtain ⟨_, f2, f3, f4⟩ := fill_setup (Below.refl w4.heap.size w4) Tryz.zeroCells29 cs.toArray 29
  rw [← hg5] at f2 f3 f4 ⊢
  generalize hw5 : World.setRow _ _ _ = w5
  have e5 : World.setRow (w4.alloc (.cells Tryz.zeroCells29 29)) g5 cs.toArray = w5 := hw5
  rw [e5] at f2 f4
  rw [hg5] at f4
  have k5 := f2
  rw [HCS.out] at k5
  have K5 : Hid (BlBox w5 g5 startH (.slice (some ⟨gt, 0, none⟩) 1 1)) := ⟨k5⟩
  have F5 := Lib.hid f2
  have TX4 : Hid (Sty (fun k => w2.heap.size ≤ k ∧ k ≠ g5) w4 (fun W => TxsAt W (.slice (some ⟨gt, 0, none⟩) 1 1) [startT])) := fun W hW => by
    have hgt5 : gt < w4.heap.size := (Array.getElem?_eq_some_iff.1 NT.out).1
    have h1 := row_kps NT.out hW ⟨GTL.out, by rw [hg5]; omega⟩
    have h2 := TA4.out W (hW.mono (fun k hk h => ⟨h, by rw [hg5]; omega⟩))
    rw [HCT.out] at h1 h2
    exact txsAt_one h1 h2
  have N5 := Lib.hid f4
  have B5 := Lib.hid (B4.out.trans (f4.mono B4.out.size))
  have FR5 := Lib.hid (row_below F4.out f4)
  have GB : Hid (w.heap.size < g5) := by show _ < _; rw [hg5]; exact (Array.getElem?_eq_some_iff.1 F4.out).1
  clear f2 f3 f4 hw5 e5 k5 hg5
  have BA : Hid (BlkAt w5 (.agg cs.toArray) startX0) := by rw [HCS.out]; exact ⟨startH_ok, _, rfl, TX4.out w5 (Kps.new N5.out)⟩
  obtain ⟨R, hR⟩ : ∃ R, R = blRoot startX0 := ⟨_, rfl⟩
  have LR : Hid (R.length = 32) := by show _ = _; rw [hR]; exact blRoot_length startX0
  have RC : Hid (Calls Tryz.prog 16 #[.agg cs.toArray] w5 fun e w' => e = .returned (.agg (R.map bV).toArray) ∧ Below w5.heap.size w5 w') := by
    rw [hR]
    exact blroot_any startX0 _ w5 BA.out startX0_small (HK.out.below B5.out)
  have HR := Lib.hid hR
  clear hR
  go_wp2_with ((with_reducible show wpList _ _ _ _ _ _); refine wpList_load_row rfl 29 (.tmp 1) rfl g5 rfl 29 cs.toArray (0, 0) _ F5.out Tryz.underlying29 rfl (by rw [LS.out]; kernel_rfl) ?_; go_frame)
  refine RC.out.mono ?_
  rintro e w6 ⟨rfl, hb6⟩
  have K6 := Lib.hid (K5.out.below hb6)
  have N6 := Lib.hid (N5.out.trans (hb6.mono N5.out.size))
  have B6 := Lib.hid (B5.out.trans (hb6.mono B5.out.size))
  have FR6 := Lib.hid (row_below FR5.out hb6)
  clear hb6
  go_upto_region 3 with ((with_reducible show wpList _ _ _ _ _ _); refine st_blroot rfl (.tmp 10) (.tmp 8) rfl rfl R LR.out rfl startH_ok K6.out ?_; intro w7 k7 g7; have K7 := Lib.hid k7; have G7 := Lib.hid g7; clear k7 g7; go_frame)
  have FR7 := Lib.hid (row_far FR6.out G7.out (by intro h; have := Option.some.inj h; have := GB.out; omega))
  have B7 := Lib.hid (B6.out.grown G7.out B6.out.size (fun k hk => by cases hk; have := GB.out; omega))
  obtain ⟨hd, hhd⟩ : ∃ hd, hd = ({ startH with root := R } : THd) := ⟨_, rfl⟩
  rw [← hhd] at K7
  have HOK : Hid (HdOk hd) := by show HdOk _; rw [hhd, HR.out]; exact startX_ok
  have ON2 : Hid ((blL hd (.slice (some ⟨gt, 0, none⟩) 1 1)).toArray.all (·.oneCell') = true) := blL_one rfl
  have LS2 : Hid ((blL hd (.slice (some ⟨gt, 0, none⟩) 1 1)).toArray.size = 69) := blL_size HOK.out _
  obtain ⟨ds, hds⟩ : ∃ ds, ds = blL hd (.slice (some ⟨gt, 0, none⟩) 1 1) := ⟨_, rfl⟩
  have F7 : Hid (w7.heap[g5]? = some (.cells ds.toArray 29 (0, 0))) := by rw [hds]; exact K7.out.row
  rw [← hds] at ON2 LS2
  have HDS := Lib.hid hds
  have HHD := Lib.hid hhd
  clear hds hhd
  go_wp2_with ((with_reducible show wpList _ _ _ _ _ _); first | (refine wpList_load_row rfl 29 (.tmp 1) rfl g5 rfl 29 ds.toArray (0, 0) _ F7.out Tryz.underlying29 rfl (by rw [LS2.out]; kernel_rfl) ?_; go_frame) | (refine wpList_store_row rfl 29 (.tmp 0) (.tmp 11) rfl w.heap.size ds.toArray rfl rfl 29 _ FR7.out (by rw [LS2.out]; kernel_rfl) (by rw [LS2.out]; kernel_rfl) ON2.out ?_; go_frame))
  refine bodyPost_ret (results_cell_row rfl _ _ w.heap.size 29 ds.toArray (0, 0) _ rfl (setRow_heap _ _ _ _ _ _ FR7.out) Tryz.underlying29 rfl (by rw [LS2.out]; kernel_rfl)) rfl ?_
  have G8 : w7.grownBy (w7.setRow w.heap.size ds.toArray) (some w.heap.size) := setRow_grown _
  refine ⟨_, rfl, ⟨startX_ok, .slice (some ⟨gt, 0, none⟩) 1 1, ?_, ?_⟩, B7.out.grown G8 B7.out.size (fun k hk => by cases hk; exact Nat.le_refl _)⟩
  · rw [HDS.out, HHD.out, HR.out]
    rfl
  · exact TX4.out _ (((Kps.new N6.out).trans (Kps.grown G7.out (fun k _ h e => h.2 (Option.some.inj e)))).trans (Kps.grown G8 (fun k _ h e => by have := Option.some.inj e; have := LW2.out; have := h.1; omega)))
end Go.Proofs.YtdamhoagiooicaaGreatDoor.Sha
