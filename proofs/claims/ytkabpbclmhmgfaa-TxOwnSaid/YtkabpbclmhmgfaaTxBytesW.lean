/-
  Package tx writes a transaction down, in new memory. Nothing that was there turns. Condition: a transaction of a few inputs and outputs that lies in memory.
-/
import Derived.Test.YtkabpbclmhmgfaaTxPieces
import Derived.Test.YtkabpbclmhmgfaaTxSize
namespace Go.Proofs.Ytkabpbclmhmgfaa.Sha
open Go Go.RowKit

def BtInv (n : Nat) (A : Nat → List UInt8) (w1 : World) (vb vi : Value) (wr : World) : Prop :=
  ∃ (k : Nat) (vq : Value), vq = vb ∧ k ≤ n ∧ vi = .int .i64 k ∧ CopyB w1 wr vq (A k)
set_option maxHeartbeats 4000000 in
set_option maxRecDepth 100000 in
theorem bytes_all : BytesC := by
  intro t v w h1 hs
  obtain ⟨i0, hi, hz0, hz1, hz2⟩ := info_parts info_u8
  have h1' := h1
  obtain ⟨ht0, iv, ov, rfl, hti, hto⟩ := h1
  obtain ⟨si, ci, rfl, hci, hti⟩ := hti
  obtain ⟨so, co, rfl, hco, hto⟩ := hto
  have HTI := Lib.hid hti
  have HTO := Lib.hid hto
  obtain ⟨ni, hn1⟩ : ∃ ni, ni = t.ins.length := ⟨_, rfl⟩
  obtain ⟨no, hn2⟩ : ∃ no, no = t.outs.length := ⟨_, rfl⟩
  obtain ⟨vt, hvt⟩ : ∃ vt, vt = t.ver := ⟨_, rfl⟩
  obtain ⟨tt, htt⟩ : ∃ tt, tt = t.time := ⟨_, rfl⟩
  have NI := Lib.hid hn1
  have NO := Lib.hid hn2
  have VT := Lib.hid hvt
  have TT := Lib.hid htt
  have TS := Lib.hid hs
  have bni : ni ≤ 1000 := by rw [hn1]; exact hs.2.1
  have bno : no ≤ 1000 := by rw [hn2]; exact hs.2.2.1
  simp only [txL, ← hn1, ← hn2, ← hvt, ← htt] at h1' ⊢
  have H1 := Lib.hid h1'
  clear hn1 hn2 hci hco hvt htt ht0 hti hto h1' hs
  
  go_enter Try.func8, Try.ntmps8
  go_upto_region 1 with fail
  have F := Lib.hid (heap_alloc_new w (.cells [nV vt, .slice si ni ci, .slice so no co, nV tt].toArray 26 (0, 0)))
  have B0 := Lib.hid ((Below.refl w.heap.size w).alloc (Nat.le_refl _) (.cells [nV vt, .slice si ni ci, .slice so no co, nV tt].toArray 26 (0, 0)))
  generalize hw1 : World.alloc _ _ = w1
  have e1 : w.alloc (.cells [nV vt, .slice si ni ci, .slice so no co, nV tt].toArray 26 (0, 0)) = w1 := hw1
  rw [e1] at F B0
  clear hw1 e1
  have BOX : Hid (∀ w', Below w1.heap.size w1 w' → ∀ j v, [nV vt, .slice si ni ci, .slice so no co, nV tt][j]? = some v → w'.cell? ⟨w.heap.size, j, none⟩ = some v) := fun w' hw' j v hj => by
    rw [cell_of_row _ _ _ _ _ _ (row_below F.out hw'), List.getElem?_toArray]
    exact hj
  obtain ⟨sz, hsz⟩ : ∃ sz, sz = (txB t).length := ⟨_, rfl⟩
  have bsz : sz ≤ 35184372088832 := by rw [hsz]; exact TS.out.len
  have SZ : Hid (∀ w', Below w1.heap.size w1 w' → Calls Try.prog 9 #[.agg [nV vt, .slice si ni ci, .slice so no co, nV tt].toArray] w' fun e w'' => e = .returned (.int .i64 (sz : Int)) ∧ Below w'.heap.size w' w'') := fun w' hw' => by
    rw [hsz]
    exact size_all t _ w' ((H1.out.below B0.out).below hw') TS.out
  have LI : Hid ((insB t.ins).length ≤ 200000000) := TS.out.ins0
  have LO : Hid ((outsB t.outs).length ≤ 40000) := by show _ ≤ _; rw [outsB_length t.outs TS.out.1.2.2.1]; have := TS.out.2.2.1; omega
  have VTB : Hid (vt ≤ 4294967295) := by show _ ≤ _; rw [VT.out]; exact TS.out.1.1.1
  have TTB : Hid (tt ≤ 4294967295) := by show _ ≤ _; rw [TT.out]; exact TS.out.1.1.2
  clear hsz
  go_wp2_with ((with_reducible show wpList _ _ _ _ _ _); refine wpList_load_row rfl 26 (.tmp 1) rfl w.heap.size rfl 26 [nV vt, .slice si ni ci, .slice so no co, nV tt].toArray (0, 0) _ F.out Try.underlying26 rfl (by kernel_rfl) ?_; go_frame)
  refine (SZ.out w1 (Below.refl _ _)).mono ?_
  rintro e w2 ⟨rfl, hb2⟩
  have B2 := Lib.hid hb2
  clear hb2 SZ
  have c0 : w2.cell? ⟨w.heap.size, 0, none⟩ = some (Value.int .u32 (vt : Int)) := BOX.out w2 B2.out 0 _ rfl
  go_upto_region 2 with (at_make; refine wpList_make_own _ rfl _ _ 34 rfl w2.heap.size 5 i0 (.int .u8 0) 1 Try.underlying34 hi hz0 hz1 _ _ _ sz rfl rfl (by omega) (by rw [hz2]; omega) (by unfold maxLen; omega) (Nat.le_refl _) ?_; intro w3 hown hgrow; have C3 : Hid (CopyB w2 w3 (.slice (some ⟨w2.heap.size, 0, none⟩) 0 sz) []) := (⟨hown, below_made hgrow⟩ : CopyB w2 w3 (.slice (some ⟨w2.heap.size, 0, none⟩) 0 sz) []); clear hown hgrow; go_frame)
  have C3 := Lib.hid (C3.out.start B2.out)
  clear c0 bsz
  have c0 : w3.cell? ⟨w.heap.size, 0, none⟩ = some (Value.int .u32 (vt : Int)) := BOX.out w3 C3.out.2 0 _ rfl
  go_wp2_with fail
  refine (four_new [] _ vt w3 (nil_src _) (by simp) VTB.out).mono ?_
  rintro e w4 ⟨s4, n4, c4, rfl, hn4, hc4⟩
  have P4 := Lib.hid hc4
  have C4 := Lib.hid (C3.out.keep hc4.2)
  clear hn4 hc4 c0 C3
  rw [List.nil_append] at P4
  go_upto_region 3 with ((with_reducible show wpList _ _ _ _ _ _); refine wpList_append_g _ rfl (.tmp 11) (.tmp 14) 34 rfl w1.heap.size 5 i0 Try.underlying34 hi hz0 hz1 hz2 _ _ _ (by rfl) C4.out.1 (.slice s4 n4 c4) (leB vt 4) (by rfl) P4.out.src (by simp only [leB_length, List.length_nil]; omega) C4.out.2.size ?_; intro v5 w5 a1 a2 a3; have C5 := Lib.hid (C4.out.app a1 a2); clear a1 a2 a3; go_frame)
  obtain ⟨A5, hA5⟩ : ∃ A5, A5 = leB vt 4 := ⟨_, rfl⟩
  rw [List.nil_append, ← hA5] at C5
  have LA5 : Hid (A5.length = 4) := by show _ = _; rw [hA5, leB_length]
  have HA5 := Lib.hid hA5
  clear hA5 P4 C4
  have c1 : w5.cell? ⟨w.heap.size, 1, none⟩ = some (Value.slice si ni ci) := BOX.out w5 C5.out.2 1 _ rfl
  have u1 : IntKind.u64.wrap (ni : Int) = (ni : Int) := u64_stays (by omega)
  go_wp2_with fail
  refine (put_new [] _ ni w5 (nil_src _) (by simp)).mono ?_
  rintro e w6 ⟨s6, n6, c6, rfl, hn6, hc6⟩
  have P6 := Lib.hid hc6
  have C6 := Lib.hid (C5.out.keep hc6.2)
  clear hn6 hc6 c1 u1 C5
  rw [List.nil_append] at P6
  have LP6 : Hid ((putL ni).length ≤ 9) := by show _ ≤ _; rw [putL_length]; have := lenN_bd ni; omega
  go_upto_region 4 with ((with_reducible show wpList _ _ _ _ _ _); refine wpList_append_g _ rfl (.tmp 16) (.tmp 21) 34 rfl w1.heap.size 5 i0 Try.underlying34 hi hz0 hz1 hz2 _ _ _ (by rfl) C6.out.1 (.slice s6 n6 c6) (putL ni) (by rfl) P6.out.src (by have := LA5.out; have := LP6.out; omega) C6.out.2.size ?_; intro v7 w7 a1 a2 a3; have C7 := Lib.hid (C6.out.app a1 a2); clear a1 a2 a3; go_frame)
  obtain ⟨A7, hA7⟩ : ∃ A7, A7 = A5 ++ putL ni := ⟨_, rfl⟩
  rw [← hA7] at C7
  have LA7 : Hid (A7.length ≤ 13) := by show _ ≤ _; rw [hA7, List.length_append]; have := LA5.out; have := LP6.out; omega
  have HA7 := Lib.hid hA7
  clear hA7 P6 C6 LP6 LA5
  have c1 : w7.cell? ⟨w.heap.size, 1, none⟩ = some (Value.slice si ni ci) := BOX.out w7 C7.out.2 1 _ rfl
  go_wp2_with fail
  clear c1
  go_loopw [3, 26] (fun vb vi wr => BtInv ni (fun k => A7 ++ insB (t.ins.take k)) w1 vb vi wr) (fun _ i _ => ni - (intOf i).toNat)
  case atStart => exact ⟨0, _, rfl, by omega, rfl, by simpa [insB] using C7.out⟩
  case round =>
    clear C7
    obtain ⟨k, vb, rfl, hk, rfl, HC⟩ := hrel
    have HC : CopyB w1 wr vb (A7 ++ insB (t.ins.take k)) := HC
    have HC := Lib.hid HC
    have B := Lib.hid HC.out.2
    by_cases hlt : k < ni
    · have hkx : k < t.ins.length := by have := NI.out; omega
      obtain ⟨b1, o1, hs1, he1⟩ := HTI.out (by omega)
      have g1 := he1 k _ (List.getElem?_eq_getElem hkx)
      obtain ⟨x, hx⟩ : ∃ x, x = t.ins[k] := ⟨_, rfl⟩
      rw [← hx] at g1
      have hgx : t.ins[k]? = some x := by rw [hx]; exact List.getElem?_eq_getElem _
      obtain ⟨hx1, kx, hkx2, hr1⟩ := g1
      obtain ⟨sx, cx, hkv⟩ := hkx2.2
      obtain ⟨kl, hkl⟩ : ∃ kl, kl = x.key.length := ⟨_, rfl⟩
      rw [← hkl] at hkv
      subst hkv
      have p0 : 0 ≤ (k : Int) := by omega
      have q0 : (k : Int) < (ni : Int) := by omega
      have bkl : kl ≤ 100000 := by rw [hkl]; exact TS.out.2.2.2 x (List.mem_of_getElem? hgx)
      have R1 := Lib.hid (range_below (range_below hr1 B0.out) B.out)
      have KW := Lib.hid ((hkx2.1.below B0.out).below B.out)
      have GX := Lib.hid hgx
      have KL := Lib.hid hkl
      have XOK := Lib.hid hx1
      have ONE := Lib.hid (in_one x (.slice sx kl cx) rfl)
      have LX : Hid ((inL x (.slice sx kl cx)).length = 35) := inL_length x _ hx1.1
      have LX' : Hid ((inL x (.slice sx kl cx)).toArray.size = 35) := by show _ = _; rw [List.size_toArray]; exact LX.out
      subst hs1
      clear hx hgx he1 hx1 hkx2 hr1 hkl hkx
      obtain ⟨g5, hg5⟩ : ∃ g5, g5 = wr.heap.size := ⟨_, rfl⟩
      obtain ⟨_, f2, f3, f4⟩ := fill_setup (Below.refl wr.heap.size wr) (List.replicate 32 (bV 0) ++ [nV 0, .slice none 0 0, nV 0]).toArray (inL x (.slice sx kl cx)).toArray 36
      go_upto_region 7 with ((with_reducible show wpList _ _ _ _ _ _); first | (refine wpList_load_mid rfl 36 (.tmp 28) rfl b1 (o1 + k * 35) rfl (inL x (.slice sx kl cx)) _ R1.out Try.underlying36 rfl (by rw [LX.out]; kernel_rfl) ?_; go_frame) | (refine wpList_store_row rfl 36 (.tmp 5) (.tmp 29) rfl wr.heap.size (inL x (.slice sx kl cx)).toArray rfl rfl 36 _ (heap_alloc_new _ _) (by rw [LX'.out]; kernel_rfl) (by rw [LX'.out]; rfl) ONE.out ?_; go_frame))
      rw [← hg5] at f2 f3 f4 ⊢
      generalize hw5 : World.setRow _ _ _ = w5
      have e5 : World.setRow (wr.alloc (.cells (List.replicate 32 (bV 0) ++ [nV 0, .slice none 0 0, nV 0]).toArray 36)) g5 (inL x (.slice sx kl cx)).toArray = w5 := hw5
      rw [e5] at f2 f4
      rw [hg5] at f4
      have F5 := Lib.hid f2
      have N5 := Lib.hid f4
      have B5 := Lib.hid (B.out.trans (f4.mono B.out.size))
      have G5 := Lib.hid hg5
      have IN5 : Hid (∀ (j : Nat) (u : Value), (inL x (.slice sx kl cx))[j]? = some u → w5.cell? ⟨g5, j, none⟩ = some u) := fun j u hj => by
        rw [cell_of_row _ _ _ _ _ _ F5.out, List.getElem?_toArray]
        exact hj
      have X33 : Hid ((inL x (.slice sx kl cx))[33]? = some (.slice sx kl cx)) := by show _ = _; rw [inL, List.getElem?_append_right (by simp [ptL, XOK.out.1])]; simp [ptL, XOK.out.1]
      clear f2 f3 f4 hg5 hw5 e5
      have HC5 := Lib.hid (HC.out.keep N5.out)
      have LB : Hid ((A7 ++ insB (t.ins.take k)).length ≤ 200000013 ∧ (inB x).length ≤ 200000000) := by
        show _ ∧ _
        have h1 := ins_part GX.out
        have h2 := LI.out
        have h3 := LA7.out
        rw [List.length_append]
        omega
      have KA : Hid (KeyAt w5 (.slice sx kl cx) x.key) := ⟨KW.out.below N5.out, sx, cx, by rw [KL.out]⟩
      obtain ⟨bs, hbs⟩ : ∃ bs, bs = A7 ++ insB (t.ins.take k) := ⟨_, rfl⟩
      rw [← hbs] at HC5 LB
      have HBS := Lib.hid hbs
      clear hbs
      go_wp2_with ((with_reducible show wpList _ _ _ _ _ _); refine wpList_load_row rfl 36 (.tmp 5) rfl g5 rfl 36 (inL x (.slice sx kl cx)).toArray (0, 0) _ F5.out Try.underlying36 rfl (by rw [LX'.out]; kernel_rfl) ?_; go_frame)
      refine (inBytes_any x (.slice sx kl cx) XOK.out w5 KA.out (by rw [← KL.out]; omega)).mono ?_
      rintro e w6 ⟨v6, rfl, hc6⟩
      have P6 := Lib.hid hc6
      have C6 := Lib.hid (HC5.out.keep hc6.2)
      clear hc6
      go_wp2_with ((with_reducible show wpList _ _ _ _ _ _); refine wpList_append_g _ rfl (.tmp 30) (.tmp 32) 34 rfl w1.heap.size 5 i0 Try.underlying34 hi hz0 hz1 hz2 _ _ _ (by rfl) C6.out.1 v6 (inB x) (by rfl) P6.out.src (by have := LB.out; omega) C6.out.2.size ?_; intro v7 w7 a1 a2 a3; have C7 := Lib.hid (C6.out.app a1 a2); clear a1 a2 a3; go_frame)
      go_roundw
      case rel =>
        refine ⟨k + 1, v7, rfl, by omega, by go_num, ?_⟩
        have h := C7.out
        rw [HBS.out] at h
        show CopyB w1 w7 v7 (A7 ++ insB (t.ins.take (k + 1)))
        rw [ins_snoc GX.out]
        simpa only [List.append_assoc] using h
      case measure => simp [intOf]; omega
    · have hkn : k = ni := by omega
      have hge : ¬ (k : Int) < (ni : Int) := by omega
      have HC2 : CopyB w1 wr vb (A7 ++ insB t.ins) := by
        have h := HC.out
        rw [hkn, NI.out, List.take_length] at h
        exact h
      have C7 := Lib.hid HC2
      obtain ⟨A8, hA8⟩ : ∃ A8, A8 = A7 ++ insB t.ins := ⟨_, rfl⟩
      rw [← hA8] at C7
      have LA8 : Hid (A8.length ≤ 200000013) := by show _ ≤ _; rw [hA8, List.length_append]; have := LI.out; have := LA7.out; omega
      have HA8 := Lib.hid hA8
      clear hA8 HC HC2 hkn B LA7 LI
      have c2 : wr.cell? ⟨w.heap.size, 2, none⟩ = some (Value.slice so no co) := BOX.out wr C7.out.2 2 _ rfl
      have u1 : IntKind.u64.wrap (no : Int) = (no : Int) := u64_stays (by omega)
      go_wp2_with fail
      refine (put_new [] _ no wr (nil_src _) (by simp)).mono ?_
      rintro e w8 ⟨s8, n8, c8, rfl, hn8, hc8⟩
      have P8 := Lib.hid hc8
      have C8 := Lib.hid (C7.out.keep hc8.2)
      clear hn8 hc8 c2 u1 C7
      rw [List.nil_append] at P8
      have LP8 : Hid ((putL no).length ≤ 9) := by show _ ≤ _; rw [putL_length]; have := lenN_bd no; omega
      go_upto_region 10 with ((with_reducible show wpList _ _ _ _ _ _); refine wpList_append_g _ rfl (.tmp 35) (.tmp 40) 34 rfl w1.heap.size 5 i0 Try.underlying34 hi hz0 hz1 hz2 _ _ _ (by rfl) C8.out.1 (.slice s8 n8 c8) (putL no) (by rfl) P8.out.src (by have := LA8.out; have := LP8.out; omega) C8.out.2.size ?_; intro v9 w9 a1 a2 a3; have C9 := Lib.hid (C8.out.app a1 a2); clear a1 a2 a3; go_frame)
      obtain ⟨A9, hA9⟩ : ∃ A9, A9 = A8 ++ putL no := ⟨_, rfl⟩
      rw [← hA9] at C9
      have LA9 : Hid (A9.length ≤ 200000022) := by show _ ≤ _; rw [hA9, List.length_append]; have := LA8.out; have := LP8.out; omega
      have HA9 := Lib.hid hA9
      clear hA9 P8 C8 LP8 LA8
      have c2 : w9.cell? ⟨w.heap.size, 2, none⟩ = some (Value.slice so no co) := BOX.out w9 C9.out.2 2 _ rfl
      go_wp2_with fail
      clear c2 hlt hge hk
      go_loopw [3, 45] (fun vb vi wr => BtInv no (fun k => A9 ++ outsB (t.outs.take k)) w1 vb vi wr) (fun _ i _ => no - (intOf i).toNat)
      case atStart => exact ⟨0, _, rfl, by omega, rfl, by simpa [outsB] using C9.out⟩
      case round =>
        clear C9
        obtain ⟨k, vb, rfl, hk, rfl, HC⟩ := hrel
        have HC : CopyB w1 wr vb (A9 ++ outsB (t.outs.take k)) := HC
        have HC := Lib.hid HC
        have B := Lib.hid HC.out.2
        by_cases hlt : k < no
        · have hkx : k < t.outs.length := by have := NO.out; omega
          obtain ⟨b2, o2, hs2, he2⟩ := HTO.out (by omega)
          have g2 := he2 k _ (List.getElem?_eq_getElem hkx)
          obtain ⟨y, hy⟩ : ∃ y, y = t.outs[k] := ⟨_, rfl⟩
          rw [← hy] at g2
          have hgy : t.outs[k]? = some y := by rw [hy]; exact List.getElem?_eq_getElem _
          obtain ⟨hy1, hr2⟩ := g2
          have p0 : 0 ≤ (k : Int) := by omega
          have q0 : (k : Int) < (no : Int) := by omega
          have R2 := Lib.hid (range_below (range_below hr2 B0.out) B.out)
          have GY := Lib.hid hgy
          have YOK := Lib.hid hy1
          have ONE := Lib.hid (out_one y)
          have LY : Hid ((outL y).length = 33) := outL_length y hy1.1
          have LY' : Hid ((outL y).toArray.size = 33) := by show _ = _; rw [List.size_toArray]; exact LY.out
          subst hs2
          clear hy hgy he2 hy1 hr2 hkx
          obtain ⟨g5, hg5⟩ : ∃ g5, g5 = wr.heap.size := ⟨_, rfl⟩
          obtain ⟨_, f2, f3, f4⟩ := fill_setup (Below.refl wr.heap.size wr) (uV 0 :: List.replicate 32 (bV 0)).toArray (outL y).toArray 39
          go_upto_region 13 with ((with_reducible show wpList _ _ _ _ _ _); first | (refine wpList_load_mid rfl 39 (.tmp 47) rfl b2 (o2 + k * 33) rfl (outL y) _ R2.out Try.underlying39 rfl (by rw [LY.out]; kernel_rfl) ?_; go_frame) | (refine wpList_store_row rfl 39 (.tmp 7) (.tmp 48) rfl wr.heap.size (outL y).toArray rfl rfl 39 _ (heap_alloc_new _ _) (by rw [LY'.out]; kernel_rfl) (by rw [LY'.out]; rfl) ONE.out ?_; go_frame))
          rw [← hg5] at f2 f3 f4 ⊢
          generalize hw5 : World.setRow _ _ _ = w5
          have e5 : World.setRow (wr.alloc (.cells (uV 0 :: List.replicate 32 (bV 0)).toArray 39)) g5 (outL y).toArray = w5 := hw5
          rw [e5] at f2 f4
          rw [hg5] at f4
          have F5 := Lib.hid f2
          have N5 := Lib.hid f4
          have B5 := Lib.hid (B.out.trans (f4.mono B.out.size))
          have G5 := Lib.hid hg5
          clear f2 f3 f4 hg5 hw5 e5
          have HC5 := Lib.hid (HC.out.keep N5.out)
          have LB : Hid ((A9 ++ outsB (t.outs.take k)).length ≤ 200040022 ∧ (outB y).length ≤ 40000) := by
            show _ ∧ _
            have h1 := outs_part GY.out
            have h2 := LO.out
            have h3 := LA9.out
            rw [List.length_append]
            omega
          obtain ⟨bs, hbs⟩ : ∃ bs, bs = A9 ++ outsB (t.outs.take k) := ⟨_, rfl⟩
          rw [← hbs] at HC5 LB
          have HBS := Lib.hid hbs
          clear hbs
          go_wp2_with ((with_reducible show wpList _ _ _ _ _ _); refine wpList_load_row rfl 39 (.tmp 7) rfl g5 rfl 39 (outL y).toArray (0, 0) _ F5.out Try.underlying39 rfl (by rw [LY'.out]; kernel_rfl) ?_; go_frame)
          refine (outBytes_any y YOK.out w5).mono ?_
          rintro e w6 ⟨v6, rfl, hc6⟩
          have P6 := Lib.hid hc6
          have C6 := Lib.hid (HC5.out.keep hc6.2)
          clear hc6
          go_wp2_with ((with_reducible show wpList _ _ _ _ _ _); refine wpList_append_g _ rfl (.tmp 49) (.tmp 51) 34 rfl w1.heap.size 5 i0 Try.underlying34 hi hz0 hz1 hz2 _ _ _ (by rfl) C6.out.1 v6 (outB y) (by rfl) P6.out.src (by have := LB.out; omega) C6.out.2.size ?_; intro v7 w7 a1 a2 a3; have C7 := Lib.hid (C6.out.app a1 a2); clear a1 a2 a3; go_frame)
          go_roundw
          case rel =>
            refine ⟨k + 1, v7, rfl, by omega, by go_num, ?_⟩
            have h := C7.out
            rw [HBS.out] at h
            show CopyB w1 w7 v7 (A9 ++ outsB (t.outs.take (k + 1)))
            rw [outs_snoc GY.out]
            simpa only [List.append_assoc] using h
          case measure => simp [intOf]; omega
        · have hkn : k = no := by omega
          have hge : ¬ (k : Int) < (no : Int) := by omega
          have HC2 : CopyB w1 wr vb (A9 ++ outsB t.outs) := by
            have h := HC.out
            rw [hkn, NO.out, List.take_length] at h
            exact h
          have C9 := Lib.hid HC2
          obtain ⟨A10, hA10⟩ : ∃ A10, A10 = A9 ++ outsB t.outs := ⟨_, rfl⟩
          rw [← hA10] at C9
          have LA10 : Hid (A10.length ≤ 200040022) := by show _ ≤ _; rw [hA10, List.length_append]; have := LO.out; have := LA9.out; omega
          have HA10 := Lib.hid hA10
          clear hA10 HC HC2 hkn B
          have c3 : wr.cell? ⟨w.heap.size, 3, none⟩ = some (Value.int .u32 (tt : Int)) := BOX.out wr C9.out.2 3 _ rfl
          go_wp2_with fail
          refine (four_new [] _ tt wr (nil_src _) (by simp) TTB.out).mono ?_
          rintro e w10 ⟨s10, n10, c10, rfl, hn10, hc10⟩
          have P10 := Lib.hid hc10
          have C10 := Lib.hid (C9.out.keep hc10.2)
          clear hn10 hc10 c3 C9
          rw [List.nil_append] at P10
          go_wp2_with ((with_reducible show wpList _ _ _ _ _ _); refine wpList_append_g _ rfl (.tmp 54) (.tmp 57) 34 rfl w1.heap.size 5 i0 Try.underlying34 hi hz0 hz1 hz2 _ _ _ (by rfl) C10.out.1 (.slice s10 n10 c10) (leB tt 4) (by rfl) P10.out.src (by have := LA10.out; simp only [leB_length]; omega) C10.out.2.size ?_; intro v11 w11 a1 a2 a3; have C11 := Lib.hid (C10.out.app a1 a2); clear a1 a2 a3; go_frame)
          go_ret
          have e : A10 ++ leB tt 4 = txB t := by rw [HA10.out, HA9.out, HA8.out, HA7.out, HA5.out, txB, VT.out, TT.out, NI.out, NO.out]
          have h := C11.out
          rw [e] at h
          have h2 := h.start B0.out
          exact ⟨_, rfl, h2.1, h2.2⟩
end Go.Proofs.Ytkabpbclmhmgfaa.Sha
