/-
  The law that chains of transactions are put over a view and taken off from behind alone: it answers true. Conditions: the errors and the rounds' words are there.
-/
import Derived.Test.YtgcoegbamoehfaaDoorMg16
import Derived.Test.YtgcoegbamoehfaaDoorMg17
namespace Go.Proofs.YtgcoegbamoehfaaDoor.Sha
open Go Go.RowKit
def VcI1 (w0 : World) (b a mb sb : Nat) (m : Option Nat) (c : TMn) (g8 g12 n : Nat) (vl vi : Value) (wr : World) : Prop :=
  ∃ (k : Nat) (v : Value) (L : List (List Value)) (made : Made) (gone : Gone), v = vl ∧ k ≤ n ∧ vi = .int .i64 (k : Int) ∧ VcG w0 b a mb sb m c g8 g12 k k k wr v L made gone
def VcI2 (w0 : World) (b a mb sb : Nat) (m : Option Nat) (c : TMn) (g8 g12 n : Nat) (v : Value) (L : List (List Value)) (vi : Value) (wr : World) : Prop :=
  ∃ (q : Nat) (j : Int) (made : Made) (gone : Gone), q ≤ n ∧ vi = .int .i64 j ∧ j = (q : Int) - 1 ∧ VcG w0 b a mb sb m c g8 g12 n n q wr v L made gone
theorem VcS.take' {k p : Nat} {made : Made} {gone : Gone} (h : VcS k made gone) (hk : k = p + 1) (hp : p < 20) (hm : made.Pairwise (fun x y => x.1 ≠ y.1)) : VcS p (delG made (idV (vcX p))) (goneT gone (vcX p).ins) := by
  subst hk
  exact h.take hp hm
theorem addL_vc (c : TMn) (hc : c.val ≤ 2100000000000000) : addR [] vcP0 c = 0 ∧ addL [] vcP0 c = [⟨vcP0, c⟩] := by
  have h : addR [] vcP0 c = 0 := by
    unfold addR
    rw [if_neg (by omega), if_neg (by decide)]
  exact ⟨h, by unfold addL; rw [if_pos h]; rfl⟩
theorem built_mn1 (x : Nat) : Tryd.prog.built 37 [(0, .int .u64 (x : Int))] = some (mnL ⟨x, zH, 0, false⟩).toArray := by
  have hz : ∀ parts, Tryd.prog.built 37 parts = Instr.fill ([(0, 1), (1, 32), (33, 1), (34, 1)].toArray[·]?) (mnL mnZ).toArray parts := fun parts => by kernel_rfl
  rw [hz, fill_part _ 0 0 (.int .u64 (x : Int)) [.int .u64 (x : Int)] _ _ rfl rfl (by simp [show (mnL mnZ).length = 35 from rfl]), List.take_zero, List.nil_append, List.length_singleton, Nat.zero_add]
  rfl
theorem info_txx : (Tryd.prog.info? 49).map (fun i => (i.zero, i.size, i.bytes)) = some (some (.agg #[.int .u32 0, .slice none 0 0, .slice none 0 0, .int .u32 0]), 4, 64) := by kernel_rfl
set_option maxHeartbeats 16000000 in
set_option maxRecDepth 100000 in
theorem viewchains_main (E : Nat → Addr) (x y : Int) (v : Nat) (W : World) (hE : Errs W E) (hK : KTab W) (hx : -9223372036854775808 ≤ x ∧ x ≤ 9223372036854775807) (hy : -9223372036854775808 ≤ y ∧ y ≤ 9223372036854775807) :
    Calls Tryd.prog 3 #[.int .i64 x, .int .u64 (v : Int), .int .i64 y] W fun e w' => e = .returned (.bool true) ∧ Below W.heap.size W w' := by
  obtain ⟨ii, hii, hiz0, hiz1, hiz2⟩ := info_parts info_in
  obtain ⟨io, hio, hoz0, hoz1, hoz2⟩ := info_parts info_out
  obtain ⟨it, hit, htz0, htz1, htz2⟩ := info_parts info_txx
  have HE := Lib.hid hE
  have HV : Hid (VE W E) := VE.of hE
  have HK := Lib.hid hK
  obtain ⟨X, hX⟩ : ∃ X : Int, X = if x < 0 then -(x + 1) else x := ⟨_, rfl⟩
  have hX0 : 0 ≤ X ∧ X ≤ 9223372036854775807 := by rw [hX]; split <;> omega
  obtain ⟨Y, hY⟩ : ∃ Y : Int, Y = if y < 0 then -(y + 1) else y := ⟨_, rfl⟩
  have hY0 : 0 ≤ Y ∧ Y ≤ 9223372036854775807 := by rw [hY]; split <;> omega
  obtain ⟨d, hd⟩ : ∃ d : Nat, (d : Int) = X % 20 := ⟨(X % 20).toNat, by omega⟩
  have hd20 : d < 20 := by omega
  have m1 : X.tmod 20 = (d : Int) := by rw [Int.tmod_eq_emod_of_nonneg hX0.1]; omega
  obtain ⟨n, hn⟩ : ∃ n : Nat, n = d + 1 := ⟨_, rfl⟩
  obtain ⟨A, hA⟩ : ∃ A : Nat, (A : Int) = Y % ((d : Int) + 1) := ⟨(Y % ((d : Int) + 1)).toNat, by have := Int.emod_nonneg Y (show ((d : Int) + 1) ≠ 0 by omega); omega⟩
  have hAn : A < n := by have := Int.emod_lt_of_pos Y (show 0 < ((d : Int) + 1) by omega); omega
  have m2 : Y.tmod ((d : Int) + 1) = (A : Int) := by rw [Int.tmod_eq_emod_of_nonneg hY0.1]; omega
  have XE := Lib.hid hX
  have YE := Lib.hid hY
  have M1 := Lib.hid m1
  have M2 := Lib.hid m2
  have EN : Hid ((n : Int) = (d : Int) + 1) := by show _ = _; omega
  have BN : Hid (1 ≤ n ∧ n ≤ 20 ∧ A < n) := by show _ ∧ _; omega
  have HX := Lib.hid hx
  have HY := Lib.hid hy
  have HX0 := Lib.hid hX0
  have HY0 := Lib.hid hY0
  clear hE hK hX hY hx hy hX0 hY0 hd hA m1 m2 hn hAn
  go_enter Tryd.func3, Tryd.ntmps3
  go_wp2_with fail
  refine (vwfirst_any E W HV.out (fun U hU => HK.out.below hU)).mono ?_
  rintro e w1 ⟨rfl, bb⟩
  have B1 := Lib.hid bb
  clear bb
  go_upto_if 28 with fail
  go_cut [0] (fun v0 wx => v0 = .int .i64 X ∧ w1 = wx)
  case first =>
    have hx := HX.out
    by_cases h0 : x < 0
    · have xe := XE.out
      rw [if_pos h0] at xe
      have XE2 := Lib.hid xe
      have a1 : IntKind.i64.wrap (x + 1) = x + 1 := IntWalk.i64_in _ (by omega)
      have a2 : IntKind.i64.wrap (-(x + 1)) = -(x + 1) := IntWalk.i64_in _ (by omega)
      clear xe
      go_wp2_with fail
      go_meet
      case rel => exact ⟨congrArg (Value.int .i64) (by have := XE2.out; omega), rfl⟩
    · have xe := XE.out
      rw [if_neg h0] at xe
      have XE2 := Lib.hid xe
      clear xe
      go_wp2_with fail
      go_meet
      case rel => exact ⟨congrArg (Value.int .i64) (by have := XE2.out; omega), rfl⟩
  case rest =>
    obtain ⟨rfl, rfl⟩ := hcut
    have m1 := M1.out
    have hx0 := HX0.out
    go_upto_if 36 with fail
    clear m1 hx0
    rw [← EN.out]
    go_cut [2] (fun v2 wx => v2 = .int .i64 Y ∧ w1 = wx)
    case first =>
      have hy := HY.out
      by_cases h0 : y < 0
      · have ye := YE.out
        rw [if_pos h0] at ye
        have YE2 := Lib.hid ye
        have a1 : IntKind.i64.wrap (y + 1) = y + 1 := IntWalk.i64_in _ (by omega)
        have a2 : IntKind.i64.wrap (-(y + 1)) = -(y + 1) := IntWalk.i64_in _ (by omega)
        clear ye
        go_wp2_with fail
        go_meet
        case rel => exact ⟨congrArg (Value.int .i64) (by have := YE2.out; omega), rfl⟩
      · have ye := YE.out
        rw [if_neg h0] at ye
        have YE2 := Lib.hid ye
        clear ye
        go_wp2_with fail
        go_meet
        case rel => exact ⟨congrArg (Value.int .i64) (by have := YE2.out; omega), rfl⟩
    case rest =>
      obtain ⟨rfl, rfl⟩ := hcut
      have m2 : Y.tmod (n : Int) = (A : Int) := by rw [EN.out]; exact M2.out
      have hn := BN.out
      have PL : Hid ((ptC vcP0).toArray.size = 33) := ptC_size (vcF_ok 0)
      have PO : Hid ((ptC vcP0).toArray.all (·.oneCell') = true) := ptC_all _
      obtain ⟨cp, hcp⟩ : ∃ cp, cp = ptC vcP0 := ⟨_, rfl⟩
      have CP := Lib.hid hcp
      have BP0 : Hid (Tryd.prog.built 28 [(0, .agg (.int .u8 9 :: List.replicate 31 (bV 0)).toArray), (1, .int .u32 4)] = some cp.toArray) := by
        show _ = _
        rw [hcp]
        exact built_pt (9 :: List.replicate 31 0) 4 rfl
      rw [← hcp] at PL PO
      clear hcp
      go_upto_region 11 with ((with_reducible show wpList _ _ _ _ _ _); first | (refine wpList_buildTo rfl 25 _ rfl _ rfl (.int .u8 9 :: List.replicate 31 (bV 0)).toArray (by kernel_rfl) ?_; go_frame) | (refine wpList_buildTo rfl 28 _ rfl _ rfl cp.toArray (by rw [← BP0.out]; kernel_rfl) ?_; go_frame) | (refine wpList_store_row rfl 28 (.tmp 8) (.tmp 44) rfl w1.heap.size cp.toArray rfl rfl 28 _ (heap_alloc_new _ _) (by rw [PL.out]; kernel_rfl) (by rw [PL.out]; rfl) PO.out ?_; go_frame))
      obtain ⟨_, f2, f3, f4⟩ := fill_setup (Below.refl w1.heap.size w1) (List.replicate 32 (bV 0) ++ [nV 0]).toArray cp.toArray 28
      generalize hqw2 : World.setRow _ _ _ = w2
      have ew2 : World.setRow (w1.alloc (.cells (List.replicate 32 (bV 0) ++ [nV 0]).toArray 28)) w1.heap.size cp.toArray = w2 := hqw2
      rw [ew2] at f2 f3 f4
      obtain ⟨g8, hg8⟩ : ∃ g8, g8 = w1.heap.size := ⟨_, rfl⟩
      rw [← hg8] at f2 ⊢
      have F8 := Lib.hid f2
      have Ng8 : Hid (w1.heap.size ≤ g8) := by show _ ≤ _; rw [hg8]; exact Nat.le_refl _
      have B1A := Lib.hid B1.out
      have B1 := Lib.hid (B1A.out.trans (f4.mono B1A.out.size))
      clear f2 f3 f4 hqw2 ew2 hg8
      have G8 : Hid (W.heap.size ≤ g8) := Nat.le_trans B1A.out.size Ng8.out
      clear Ng8 B1A m2
      go_upto_region 12 with fail
      have f9 := heap_alloc_new w2 (.cells #[.map none] 32 (0, 0))
      have b9 := (Below.refl w2.heap.size w2).alloc (Nat.le_refl _) (.cells #[.map none] 32 (0, 0))
      generalize hw3 : World.alloc _ _ = w3
      have e3 : w2.alloc (.cells #[.map none] 32 (0, 0)) = w3 := hw3
      rw [e3] at f9 b9
      obtain ⟨a, ha⟩ : ∃ a, a = w2.heap.size := ⟨_, rfl⟩
      have GA : Hid (W.heap.size ≤ a) := by show _ ≤ _; rw [ha]; exact B1.out.size
      rw [← ha] at f9 ⊢
      have SA : Hid (SetAt w3 a none []) := ⟨f9, rfl⟩
      have F8 := Lib.hid (row_below F8.out b9)
      have B1 := Lib.hid (B1.out.trans (b9.mono B1.out.size))
      have GNE : Hid (g8 ≠ a) := SA.out.boxne (by decide) F8.out
      clear f9 b9 hw3 e3 ha
      obtain ⟨c, hc⟩ : ∃ c : TMn, c = ⟨v % 1000, zH, 0, false⟩ := ⟨_, rfl⟩
      have MK : MnOk c := by rw [hc]; exact ⟨rfl, by show v % 1000 ≤ _; omega, by show _ ≤ (0 : Int); omega, by show (0 : Int) ≤ _; omega⟩
      have CL := addL_vc c (by rw [hc]; show v % 1000 ≤ _; omega)
      have BM : Hid (Tryd.prog.built 37 [(0, .int .u64 ((v : Int) % 1000))] = some (mnL c).toArray) := by
        have h := built_mn1 (v % 1000)
        rw [← hc] at h
        show _ = _
        rw [← h]
        congr 4
      have m3 : (v : Int).tmod 1000 = (v : Int) % 1000 := Int.tmod_eq_emod_of_nonneg (by omega)
      have AD : Hid (Calls Tryd.prog 6 #[.pointer (some ⟨a, 0, none⟩), .agg cp.toArray, .agg (mnL c).toArray] w3 fun e w' => e = .returned (errV E 0) ∧ ∃ m', SetAt w' a m' [⟨vcP0, c⟩] ∧ (m' = none ∨ ∃ b, m' = some b ∧ w3.heap.size ≤ b) ∧ Kps (fun j => j ≠ a ∧ none ≠ some j) w3 w') := by
        have h := setadd_any E w3 a none [] vcP0 c (EC.of (HE.out.below B1.out)) SA.out (vcF_ok 0) MK
        rw [CL.1, CL.2, ← CP.out] at h
        exact h
      have CK := Lib.hid MK
      obtain ⟨cm, hcm⟩ : ∃ cm, cm = mnL c := ⟨_, rfl⟩
      rw [← hcm] at BM AD
      have CME := Lib.hid hcm
      clear hc MK CL hcm
      go_wp2_with ((with_reducible show wpList _ _ _ _ _ _); first | (refine wpList_load_row rfl 28 (.tmp 8) rfl g8 rfl 28 cp.toArray (0, 0) _ F8.out Tryd.underlying28 rfl (by rw [PL.out]; kernel_rfl) ?_; go_frame) | (refine wpList_buildTo rfl 37 _ rfl _ rfl cm.toArray (by rw [← BM.out]; kernel_rfl) ?_; go_frame))
      clear m3
      refine AD.out.mono ?_
      rintro e w4 ⟨rfl, m, sa, _, kp⟩
      rw [show errV E 0 = .nilIface from rfl]
      have SA := Lib.hid sa
      have F8 := Lib.hid (row_kps F8.out kp ⟨GNE.out, fun e => (by cases e)⟩)
      have B1 := Lib.hid (below_kps B1.out kp (fun j hj => ⟨by have := GA.out; omega, fun e => (by cases e)⟩))
      clear kp sa AD BM
      go_wp2_with fail
      refine (vwover_any w4 a m _ SA.out).mono ?_
      rintro e w5 ⟨b, mb, sb, rfl, hv, hb, hmb, hsb, bb⟩
      have VW := Lib.hid hv
      have LO : Hid (W.heap.size ≤ mb ∧ W.heap.size ≤ sb) := ⟨Nat.le_trans B1.out.size hmb, Nat.le_trans B1.out.size hsb⟩
      have F8 := Lib.hid (row_below F8.out bb)
      have B1 := Lib.hid (B1.out.trans (bb.mono B1.out.size))
      clear hv hb hmb hsb bb SA
      go_upto_region 19 with ((with_reducible show wpList _ _ _ _ _ _); first | (refine wpList_load_row rfl 28 (.tmp 8) rfl g8 rfl 28 cp.toArray (0, 0) _ F8.out Tryd.underlying28 rfl (by rw [PL.out]; kernel_rfl) ?_; go_frame) | (refine wpList_store_row rfl 28 (.tmp 12) (.tmp 58) rfl w5.heap.size cp.toArray rfl rfl 28 _ (heap_alloc_new _ _) (by rw [PL.out]; kernel_rfl) (by rw [PL.out]; rfl) PO.out ?_; go_frame))
      obtain ⟨_, f2, f3, f4⟩ := fill_setup (Below.refl w5.heap.size w5) (List.replicate 32 (bV 0) ++ [nV 0]).toArray cp.toArray 28
      generalize hqw6 : World.setRow _ _ _ = w6
      have ew6 : World.setRow (w5.alloc (.cells (List.replicate 32 (bV 0) ++ [nV 0]).toArray 28)) w5.heap.size cp.toArray = w6 := hqw6
      rw [ew6] at f2 f3 f4
      obtain ⟨g12, hg12⟩ : ∃ g12, g12 = w5.heap.size := ⟨_, rfl⟩
      rw [← hg12] at f2 ⊢
      have F12 := Lib.hid f2
      have Ng12 : Hid (w5.heap.size ≤ g12) := by show _ ≤ _; rw [hg12]; exact Nat.le_refl _
      have B1A := Lib.hid B1.out
      have F8A := Lib.hid F8.out
      have B1 := Lib.hid (B1A.out.trans (f4.mono B1A.out.size))
      have VW := Lib.hid (VW.out.below f4)
      have F8 := Lib.hid (row_below F8A.out f4)
      clear f2 f3 f4 hqw6 ew6 hg12
      have G12 : Hid (W.heap.size ≤ g12) := Nat.le_trans B1A.out.size Ng12.out
      have NE : Hid (g8 ≠ g12) := by
        have h1 := (Array.getElem?_eq_some_iff.1 F8A.out).1
        have := Ng12.out
        show _ ≠ _
        omega
      have ST : Hid (VcG W b a mb sb m c g8 g12 0 0 0 w6 (.slice none 0 0) [] [] []) := ⟨B1.out, VW.out, VcS.nil, by rw [← CP.out]; exact F8.out, by show w6.heap[g12]? = some (.cells (ptC vcP0).toArray _ _); rw [← CP.out]; exact F12.out, RwOwn.nil _ _ _ _, rfl, fun i x hx => (by simp at hx), ⟨LO.out.1, LO.out.2, G12.out, NE.out⟩⟩
      clear B1 VW F8 F12 LO G12 NE Ng12 B1A F8A G8 GA
      go_wp2_with fail
      go_loopw [11, 13] (fun vl vi wr => VcI1 W b a mb sb m c g8 g12 n vl vi wr) (fun _ i _ => n - (intOf i).toNat)
      case atStart => exact ⟨0, _, _, _, _, rfl, Nat.zero_le _, rfl, ST.out⟩
      case round =>
        clear ST
        obtain ⟨k, vq, L, made, gone, rfl, hk, rfl, hst⟩ := hrel
        have ST := Lib.hid hst
        clear hst
        by_cases hlt : k < n
        · have k20 : k < 20 := by have := BN.out; omega
          have w32 : IntKind.u32.wrap (k : Int) = (k : Int) := by
            simp [IntKind.wrap, IntKind.signed, IntKind.bits]
            omega
          have w64 : IntKind.u64.wrap (k : Int) = (k : Int) := u64_stays (by omega)
          have F12 := Lib.hid ST.out.f12
          have LF : Hid ((ptC (vcF k)).toArray.size = 33) := ptC_size (vcF_ok k)
          have BI : Hid (Tryd.prog.built 43 [(0, .agg (ptC (vcF k)).toArray)] = some (inL ⟨(vcF k).h, (vcF k).n, [], 0⟩ xKey).toArray) := built_inp ⟨(vcF k).h, (vcF k).n, [], 0⟩ (vcF_ok k).1 rfl
          have LI : Hid ((inL ⟨(vcF k).h, (vcF k).n, [], 0⟩ xKey).length = 35) := inL_length _ _ (vcF_ok k).1
          have BO : Hid (Tryd.prog.built 46 [(0, .int .u64 (k : Int))] = some (outL ⟨k, zH⟩).toArray) := built_outv k
          have LU : Hid ((outL ⟨k, zH⟩).length = 33) := outL_length _ rfl
          obtain ⟨cf, hcf⟩ : ∃ cf, cf = ptC (vcF k) := ⟨_, rfl⟩
          obtain ⟨ci, hci⟩ : ∃ ci, ci = inL ⟨(vcF k).h, (vcF k).n, [], 0⟩ xKey := ⟨_, rfl⟩
          obtain ⟨co, hco⟩ : ∃ co, co = outL ⟨k, zH⟩ := ⟨_, rfl⟩
          rw [← hcf] at F12 LF BI
          rw [← hci] at BI LI
          rw [← hco] at BO LU
          have CIE := Lib.hid hci
          have COE := Lib.hid hco
          clear hcf hci hco
          go_upto_region 23 with ((with_reducible show wpList _ _ _ _ _ _); first | (refine wpList_load_row rfl 28 (.tmp 12) rfl g12 rfl 28 cf.toArray (0, 0) _ F12.out Tryd.underlying28 rfl (by rw [LF.out]; kernel_rfl) ?_; go_frame) | (refine wpList_buildTo rfl 43 _ rfl _ rfl ci.toArray (by rw [← BI.out]; kernel_rfl) ?_; go_frame) | (refine wpList_slice_one rfl 44 43 (.tmp 67) rfl ci rfl Tryd.underlying44 ii _ hii hiz0 (by rw [hiz1, LI.out]) (by rw [LI.out]; omega) (by rw [LI.out]; omega) ?_; have nf := heap_alloc_new wr (.cells (ci).toArray 43 (0, 0)); have bb := (Below.refl wr.heap.size wr).alloc (Nat.le_refl _) (.cells (ci).toArray 43 (0, 0)); obtain ⟨gi, hgi⟩ : ∃ g, g = wr.heap.size := ⟨_, rfl⟩; generalize hq : World.alloc _ _ = wa; have e2 : wr.alloc (.cells (ci).toArray 43 (0, 0)) = wa := hq; rw [e2] at nf bb; rw [← hgi] at nf ⊢; have NI := Lib.hid nf; have ST := Lib.hid (ST.out.below bb); have F12 := Lib.hid (row_below F12.out bb); clear nf bb hq e2 hgi; go_frame) | (refine wpList_buildTo rfl 46 _ rfl _ rfl co.toArray (by rw [← BO.out]; kernel_rfl) ?_; go_frame) | (refine wpList_slice_one rfl 47 46 (.tmp 71) rfl co rfl Tryd.underlying47 io _ hio hoz0 (by rw [hoz1, LU.out]) (by rw [LU.out]; omega) (by rw [LU.out]; omega) ?_; have nf := heap_alloc_new wa (.cells (co).toArray 46 (0, 0)); have bb := (Below.refl wa.heap.size wa).alloc (Nat.le_refl _) (.cells (co).toArray 46 (0, 0)); obtain ⟨gu, hgu⟩ : ∃ g, g = wa.heap.size := ⟨_, rfl⟩; generalize hq : World.alloc _ _ = wb; have e2 : wa.alloc (.cells (co).toArray 46 (0, 0)) = wb := hq; rw [e2] at nf bb; rw [← hgu] at nf ⊢; have NU := Lib.hid nf; have ST := Lib.hid (ST.out.below bb); have NI := Lib.hid (row_below NI.out bb); clear nf bb hq e2 hgu; go_frame) | (refine wpList_buildTo rfl 49 _ rfl _ rfl (txL (vcX k) (.slice (some ⟨gi, 0, none⟩) 1 1) (.slice (some ⟨gu, 0, none⟩) 1 1)).toArray (by kernel_rfl) ?_; go_frame) | (refine wpList_store_row rfl 49 (.tmp 14) (.tmp 73) rfl wb.heap.size (txL (vcX k) (.slice (some ⟨gi, 0, none⟩) 1 1) (.slice (some ⟨gu, 0, none⟩) 1 1)).toArray rfl rfl 49 _ (heap_alloc_new _ _) (by kernel_rfl) (by kernel_rfl) (by kernel_rfl) ?_; go_frame))
          obtain ⟨_, f2, f3, f4⟩ := fill_setup (Below.refl wb.heap.size wb) [nV 0, .slice none 0 0, .slice none 0 0, nV 0].toArray (txL (vcX k) (.slice (some ⟨gi, 0, none⟩) 1 1) (.slice (some ⟨gu, 0, none⟩) 1 1)).toArray 49
          generalize hqwc : World.setRow _ _ _ = wc
          have ewc : World.setRow (wb.alloc (.cells [nV 0, .slice none 0 0, .slice none 0 0, nV 0].toArray 49)) wb.heap.size (txL (vcX k) (.slice (some ⟨gi, 0, none⟩) 1 1) (.slice (some ⟨gu, 0, none⟩) 1 1)).toArray = wc := hqwc
          rw [ewc] at f2 f3 f4
          obtain ⟨g14, hg14⟩ : ∃ g14, g14 = wb.heap.size := ⟨_, rfl⟩
          rw [← hg14] at f2 ⊢
          have F14 := Lib.hid f2
          have Ng14 : Hid (wb.heap.size ≤ g14) := by show _ ≤ _; rw [hg14]; exact Nat.le_refl _
          have STB := Lib.hid ST.out
          have ST := Lib.hid (STB.out.below f4)
          have NI := Lib.hid (row_below NI.out f4)
          have NU := Lib.hid (row_below NU.out f4)
          clear f2 f3 f4 hqwc ewc hg14
          have FAR : Hid (vq.ownBlock ≠ some g14) := fun e => by
            have := (STB.out.row.1.lt _ e).2
            have := Ng14.out
            omega
          have EL0 : ∃ cx, cx = (txL (vcX k) (.slice (some ⟨gi, 0, none⟩) 1 1) (.slice (some ⟨gu, 0, none⟩) 1 1)) ∧ Hid (ElT wc k cx) := ⟨_, rfl, ⟨gi, gu, rfl, by rw [← CIE.out]; exact NI.out, by rw [← COE.out]; exact NU.out⟩⟩
          obtain ⟨cx, hcx, EL⟩ := EL0
          rw [← hcx] at F14 ⊢
          clear hcx STB Ng14 NI NU BI BO CIE COE LI LU F12 w32 w64
          have LX : Hid (cx.length = 4) := EL.out.len
          have LXS : Hid (cx.toArray.size = 4) := by show _ = _; rw [List.size_toArray]; exact LX.out
          have XO : Hid (∀ u ∈ cx, u.oneCell' = true) := EL.out.one
          have PU : Hid (Calls Tryd.prog 8 #[.pointer (some ⟨b, 0, none⟩), .agg cx.toArray, .int .i64 7] wc (PvPost E b a mb sb m [⟨vcP0, c⟩] made gone (vcX k) 7 wc)) := by
            obtain ⟨iv, ov, e, sty⟩ := EL.out.sty ST.out.view (by omega)
            have h := vwput_any E wc b a mb sb m [⟨vcP0, c⟩] made gone (vcX k) iv ov 7 ST.out.view (HV.out.below ST.out.bel) sty (fun U hU => HK.out.below (ST.out.bel.trans (hU.mono ST.out.bel.size))) (vcT_small k _ (vcF_ok k) (by omega)) (by omega)
            rw [← e] at h
            exact h
          go_wp2_with ((with_reducible show wpList _ _ _ _ _ _); (refine wpList_load_row rfl 49 (.tmp 14) rfl g14 rfl 49 cx.toArray (0, 0) _ F14.out Tryd.underlying49 rfl (by rw [LXS.out]; kernel_rfl) ?_; go_frame))
          refine PU.out.mono ?_
          rintro e wd ⟨hkp, hpo⟩
          rcases hpo with ⟨hne, _, _⟩ | ⟨_, rfl, vv, hv', _⟩
          · exact absurd (ST.out.st.putV k20) hne
          have F14 := Lib.hid (row_kps F14.out hkp (ST.out.view.rowF F14.out))
          have EL := Lib.hid (EL.out.vf ST.out.view hkp)
          obtain ⟨made', gone', ST⟩ : ∃ made' gone', Hid (VcG W b a mb sb m c g8 g12 k k (k + 1) wd vq L made' gone') := ⟨_, _, ST.out.turn hkp hv' (ST.out.st.put k20 vv)⟩
          clear hkp hv' PU
          have RW := Lib.hid ST.out.row
          have DL : Hid (L.length ≤ 1000) := by show _ ≤ _; rw [ST.out.len]; omega
          go_upto_region 26 with (first | ((with_reducible show wpList _ _ _ _ _ _); first | (refine wpList_load_row rfl 49 (.tmp 14) rfl g14 rfl 49 cx.toArray (0, 0) _ F14.out Tryd.underlying49 rfl (by rw [LXS.out]; kernel_rfl) ?_; go_frame) | (refine wpList_slice_one rfl 40 49 (.tmp 79) rfl cx rfl Tryd.underlying40 it _ hit htz0 (by rw [htz1, LX.out]) (by rw [LX.out]; omega) (by rw [LX.out]; omega) ?_; have nf := heap_alloc_new wd (.cells (cx).toArray 49 (0, 0)); have bb := (Below.refl wd.heap.size wd).alloc (Nat.le_refl _) (.cells (cx).toArray 49 (0, 0)); obtain ⟨gn, hgn⟩ : ∃ g, g = wd.heap.size := ⟨_, rfl⟩; generalize hq : World.alloc _ _ = we; have e2 : wd.alloc (.cells (cx).toArray 49 (0, 0)) = we := hq; rw [e2] at nf bb; rw [← hgn] at nf ⊢; have NF := Lib.hid nf; have ST := Lib.hid (ST.out.below bb); have F14 := Lib.hid (row_below F14.out bb); have EL := Lib.hid (EL.out.below bb); clear nf bb hq e2 hgn; go_frame)) | (have SZ : Hid (W.heap.size ≤ we.heap.size) := ST.out.bel.size; have RW := Lib.hid ST.out.row; (at_builtin; refine wpList_append_own_at _ rfl _ _ 40 rfl (W.heap.size) 49 it (.agg #[.int .u32 0, .slice none 0 0, .slice none 0 0, .int .u32 0]) 4 64 Tryd.underlying40 hit htz0 htz1 htz2 (by kernel_rfl) (by decide) vq _ (L).flatten rfl RW.out.1 ⟨gn, 0, none⟩ 1 1 (cx) rfl (by rw [LX.out]) (fun j u hj => by rw [Addr.add_mid]; exact range_of_box NF.out j u hj) XO.out (by have := DL.out; unfold maxLen; omega) (by have := DL.out; omega) (SZ.out) ?_; intro v8 wf q1 q2 _ q4; have RW8 : Hid (RwOwn 4 49 (W.heap.size) wf v8 ((L) ++ [cx])) := RwOwn.push RW.out.2 LX.out q1; have ST8 := Lib.hid (ST.out.push EL.out q1 q2); have F14 := Lib.hid (row_far F14.out q2 FAR.out); clear q1 q2 q4; go_frame)))
          have EL8 := (ST8.out.els k cx (by have h := ST.out.len; rw [List.getElem?_append_right (by omega), h, Nat.sub_self]; rfl)).at (by omega)
          have RI := rid_any (vcX k) (.agg cx.toArray) wf (by obtain ⟨iv, ov, e, h⟩ := EL8; rw [e]; exact h) (vcT_small k _ (vcF_ok k) (by omega))
          go_wp2_with ((with_reducible show wpList _ _ _ _ _ _); (refine wpList_load_row rfl 49 (.tmp 14) rfl g14 rfl 49 cx.toArray (0, 0) _ F14.out Tryd.underlying49 rfl (by rw [LXS.out]; kernel_rfl) ?_; go_frame))
          refine RI.mono ?_
          rintro e wg ⟨rfl, bb⟩
          have ST := Lib.hid (ST8.out.below bb)
          have F12 := Lib.hid ST.out.f12
          clear bb RI ST8 EL RW8 F14 EL8
          have BP : Hid (Tryd.prog.built 28 [(0, .agg ((sha (sha (txB (vcX k)))).map bV).toArray)] = some (ptC (vcF (k + 1))).toArray) := built_pt1 _ (sha_length _)
          have PS : Hid ((ptC (vcF (k + 1))).toArray.size = 33) := ptC_size (vcF_ok (k + 1))
          have PA : Hid ((ptC (vcF (k + 1))).toArray.all (·.oneCell') = true) := ptC_all _
          obtain ⟨ch, hch⟩ : ∃ ch, ch = (sha (sha (txB (vcX k)))).map bV := ⟨_, rfl⟩
          rw [← hch] at BP ⊢
          obtain ⟨cq, hcq⟩ : ∃ cq, cq = ptC (vcF (k + 1)) := ⟨_, rfl⟩
          rw [← hcq] at BP PS PA
          have CQ := Lib.hid hcq
          have PS0 : Hid ((ptC (vcF k)).toArray.size = 33) := ptC_size (vcF_ok k)
          clear hch hcq
          go_wp2_with ((with_reducible show wpList _ _ _ _ _ _); first | (refine wpList_buildTo rfl 28 _ rfl _ rfl cq.toArray (by rw [← BP.out]; kernel_rfl) ?_; go_frame) | (refine wpList_store_row rfl 28 (.tmp 12) (.tmp 84) rfl g12 cq.toArray rfl rfl 28 _ F12.out (by rw [PS.out]; kernel_rfl) (by rw [PS.out, PS0.out]) PA.out ?_; go_frame))
          go_roundw
          case rel =>
            exact ⟨k + 1, _, _, _, _, rfl, by omega, by go_num, ST.out.store (by rw [← CQ.out]; exact setRow_heap _ _ _ _ _ _ F12.out) (setRow_grown _)⟩
          case measure => simp [intOf]; omega
        · have hkn : k = n := by omega
          subst hkn
          have BK := BN.out
          have SK : Hid (∃ k', k = k' + 1) := ⟨k - 1, by omega⟩
          obtain ⟨k', hk'⟩ := SK.out
          have VG : vGet [⟨vcP0, c⟩] made gone (vcF k) = some (mnOf 7 ⟨k', zH⟩) := by
            subst hk'
            exact ST.out.st.get (by omega)
          have VG0 : vGet [⟨vcP0, c⟩] made gone vcP0 = none := by
            subst hk'
            exact ST.out.st.gone0
          obtain ⟨c7, hc7⟩ : ∃ c7, c7 = mnOf 7 ⟨k', zH⟩ := ⟨_, rfl⟩
          have M7 : MnOk c7 := by rw [hc7]; exact ⟨rfl, by show k' ≤ _; omega, by show _ ≤ (7 : Int); omega, by show (7 : Int) ≤ _; omega⟩
          have CELL7 : Hid (∀ (U : World) (g : Nat), U.heap[g]? = some (.cells (mnL c7).toArray 37 (0, 0)) → U.cell? ⟨g, 0 + 33, none⟩ = some (.int .i64 7) ∧ U.cell? ⟨g, 0 + 34, none⟩ = some (.bool false)) := fun U g h => by
            have h1 := mn_height M7.1 (range_of_box h)
            have h2 := mn_base M7.1 (range_of_box h)
            rw [hc7] at h1 h2
            exact ⟨h1, h2⟩
          have GA : Hid (Calls Tryd.prog 10 #[.pointer (some ⟨b, 0, none⟩), .agg (ptC (vcF k)).toArray] wr fun e w' => e = .returned (.tuple #[.agg (mnL c7).toArray, .bool true]) ∧ Below wr.heap.size wr w') := by
            have h := vwget_any wr b a mb sb m [⟨vcP0, c⟩] made gone (vcF k) ST.out.view (vcF_ok k)
            rw [VG, ← hc7] at h
            exact h
          have GB : Hid (∀ U, Below wr.heap.size wr U → Calls Tryd.prog 10 #[.pointer (some ⟨b, 0, none⟩), .agg cp.toArray] U fun e w' => e = .returned (.tuple #[.agg (mnL mnZ).toArray, .bool false]) ∧ Below U.heap.size U w') := fun U hU => by
            have h := vwget_any U b a mb sb m [⟨vcP0, c⟩] made gone vcP0 (ST.out.view.below hU) (vcF_ok 0)
            rw [VG0, ← CP.out] at h
            exact h
          have LN : Hid (∀ U, Below wr.heap.size wr U → Calls Tryd.prog 11 #[.pointer (some ⟨b, 0, none⟩)] U fun e w' => e = .returned (.int .i64 (k : Int)) ∧ U = w') := fun U hU => by
            have h := vwlen_any U b a mb sb m [⟨vcP0, c⟩] made gone (ST.out.view.below hU)
            rw [ST.out.st.len] at h
            exact h
          have L7S : Hid ((mnL c7).toArray.size = 35) := mnL_size M7
          have A7 : Hid ((mnL c7).toArray.all (·.oneCell') = true) := mnL_all _
          have LZS : Hid ((mnL mnZ).toArray.size = 35) := by show _ = _; kernel_rfl
          have AZ : Hid ((mnL mnZ).toArray.all (·.oneCell') = true) := mnL_all _
          have F12 := Lib.hid ST.out.f12
          have LF : Hid ((ptC (vcF k)).toArray.size = 33) := ptC_size (vcF_ok k)
          obtain ⟨cf, hcf⟩ : ∃ cf, cf = ptC (vcF k) := ⟨_, rfl⟩
          rw [← hcf] at F12 LF GA
          obtain ⟨cm7, hcm7⟩ : ∃ cm7, cm7 = mnL c7 := ⟨_, rfl⟩
          rw [← hcm7] at GA CELL7 L7S A7
          have F8 : Hid (wr.heap[g8]? = some (.cells cp.toArray 28 (0, 0))) := by show _ = _; rw [CP.out]; exact ST.out.f8
          clear hcf hcm7 hc7 M7 VG VG0 hk' BK hlt hk
          go_wp2_with ((with_reducible show wpList _ _ _ _ _ _); (refine wpList_load_row rfl 28 (.tmp 12) rfl g12 rfl 28 cf.toArray (0, 0) _ F12.out Tryd.underlying28 rfl (by rw [LF.out]; kernel_rfl) ?_; go_frame))
          refine GA.out.mono ?_
          rintro e x1 ⟨rfl, bb⟩
          have BX := Lib.hid bb
          clear bb GA F12 LF
          go_upto_region 28 with ((with_reducible show wpList _ _ _ _ _ _); (refine wpList_store_row rfl 37 (.tmp 15) (.tmp 89) rfl x1.heap.size cm7.toArray rfl rfl 37 _ (heap_alloc_new _ _) (by rw [L7S.out]; kernel_rfl) (by rw [L7S.out]; rfl) A7.out ?_; go_frame))
          obtain ⟨_, f2, f3, f4⟩ := fill_setup (Below.refl x1.heap.size x1) (mnL mnZ).toArray cm7.toArray 37
          generalize hqx2 : World.setRow _ _ _ = x2
          have ex2 : World.setRow (x1.alloc (.cells (mnL mnZ).toArray 37)) x1.heap.size cm7.toArray = x2 := hqx2
          rw [ex2] at f2 f3 f4
          obtain ⟨g15, hg15⟩ : ∃ g15, g15 = x1.heap.size := ⟨_, rfl⟩
          rw [← hg15] at f2 ⊢
          have F15 := Lib.hid f2
          have Ng15 : Hid (x1.heap.size ≤ g15) := by show _ ≤ _; rw [hg15]; exact Nat.le_refl _
          have BX := Lib.hid (BX.out.trans (f4.mono BX.out.size))
          clear f2 f3 f4 hqx2 ex2 hg15
          clear Ng15
          have F8X := Lib.hid (row_below F8.out BX.out)
          go_wp2_with ((with_reducible show wpList _ _ _ _ _ _); (refine wpList_load_row rfl 28 (.tmp 8) rfl g8 rfl 28 cp.toArray (0, 0) _ F8X.out Tryd.underlying28 rfl (by rw [PL.out]; kernel_rfl) ?_; go_frame))
          refine (GB.out x2 BX.out).mono ?_
          rintro e x3 ⟨rfl, bb⟩
          have F15 := Lib.hid (row_below F15.out bb)
          have BX := Lib.hid (BX.out.trans (bb.mono BX.out.size))
          clear bb GB F8X
          go_upto_region 29 with ((with_reducible show wpList _ _ _ _ _ _); (refine wpList_store_row rfl 37 (.tmp 17) (.tmp 95) rfl x3.heap.size (mnL mnZ).toArray rfl rfl 37 _ (heap_alloc_new _ _) (by rw [LZS.out]; kernel_rfl) rfl AZ.out ?_; go_frame))
          obtain ⟨_, f2, f3, f4⟩ := fill_setup (Below.refl x3.heap.size x3) (mnL mnZ).toArray (mnL mnZ).toArray 37
          generalize hqx4 : World.setRow _ _ _ = x4
          have ex4 : World.setRow (x3.alloc (.cells (mnL mnZ).toArray 37)) x3.heap.size (mnL mnZ).toArray = x4 := hqx4
          rw [ex4] at f4
          have F15 := Lib.hid (row_below F15.out f4)
          have BX := Lib.hid (BX.out.trans (f4.mono BX.out.size))
          clear f2 f3 f4 hqx4 ex4
          have c33 := (CELL7.out _ _ F15.out).1
          have c34 := (CELL7.out _ _ F15.out).2
          go_wp2_with fail
          refine (LN.out x4 BX.out).mono ?_
          rintro e x5 ⟨rfl, rfl⟩
          clear c33 c34 LN F15 CELL7 L7S A7
          have ST := Lib.hid (ST.out.below BX.out)
          clear BX F8
          obtain ⟨spv, capv, hvq⟩ : ∃ sp cap, vq = .slice sp k cap := by
            obtain ⟨sp, cap, e⟩ := (ST.out.row.at (by omega)).shape
            exact ⟨sp, cap, by rw [e, ST.out.len]⟩
          subst hvq
          have ba := BN.out
          obtain ⟨bv0, ov0, rfl, hg⟩ := (ST.out.row.at (by omega)).get (by omega)
          have GET : Hid (∀ i, i < k → ∀ q made gone U, VcG W b a mb sb m c g8 g12 k k q U (.slice (some ⟨bv0, ov0, none⟩) k capv) L made gone → ∃ x, U.rangeAt bv0 (ov0 + i * 4) x ∧ ElT U i x) := fun i hi q made gone U h => by
            obtain ⟨x, hx⟩ : ∃ x, L[i]? = some x := ⟨_, List.getElem?_eq_getElem (by rw [h.len]; exact hi)⟩
            obtain ⟨b1, o1, e, hg⟩ := (h.row.at (by omega)).get (by omega)
            cases e
            exact ⟨x, hg i x hx, h.els i x hx⟩
          have TAKE : Hid (∀ i, i < k → ∀ q made gone U x, VcG W b a mb sb m c g8 g12 k k q U (.slice (some ⟨bv0, ov0, none⟩) k capv) L made gone → ElT U i x → Calls Tryd.prog 12 #[.pointer (some ⟨b, 0, none⟩), .agg x.toArray] U (PtPost E b a mb sb m [⟨vcP0, c⟩] made gone (vcX i) U)) := fun i hi q made gone U x h el => by
            have := BN.out
            obtain ⟨iv, ov, e, sty⟩ := el.sty h.view (by omega)
            have h := vwtake_any E U b a mb sb m [⟨vcP0, c⟩] made gone (vcX i) iv ov h.view (HV.out.below h.bel) sty (fun U' hU => HK.out.below (h.bel.trans (hU.mono h.bel.size))) (vcT_small i _ (vcF_ok i) (by omega))
            rw [← e] at h
            exact h
          clear hg
          obtain ⟨xa, hra, hea⟩ := GET.out A ba.2.2 k made gone x4 ST.out
          have RA := Lib.hid hra
          have LA : Hid (xa.length = 4) := hea.len
          have TA := Lib.hid (TAKE.out A ba.2.2 k made gone x4 xa ST.out hea)
          clear hra hea
          have p0 : 0 ≤ (A : Int) := by omega
          have q0 : (A : Int) < (k : Int) := by omega
          go_wp2_with ((with_reducible show wpList _ _ _ _ _ _); (refine wpList_load_mid rfl 49 (.tmp 120) rfl bv0 (ov0 + A * 4) rfl xa _ RA.out Tryd.underlying49 rfl (by rw [LA.out]; kernel_rfl) ?_; go_frame))
          refine TA.out.mono ?_
          rintro e x6 ⟨hkp, hpo⟩
          have TV := ST.out.st.takeV (by omega : k ≤ 20) ba.2.2
          by_cases hA : A + 1 < k
          · rw [if_pos hA] at TV
            rcases hpo with ⟨_, rfl, hv'⟩ | ⟨h0, _, _⟩
            · rw [TV]
              have ST := Lib.hid (ST.out.turn hkp hv' ST.out.st)
              clear hkp hv' TA RA LA TV
              have t1 : (A : Int) < (k : Int) - 1 := by omega
              have t2 : ((A : Int) == (k : Int) - 1) = false := by rw [beq_eq_false_iff_ne]; omega
              go_wp2_with fail
              refine (is_any E 13 113 true (by decide) x6 (HE.out.below ST.out.bel) (by omega)).mono ?_
              rintro e x7 ⟨rfl, bb⟩
              have ST := Lib.hid (ST.out.below bb)
              clear bb
              go_wp2_with fail
              go_loopw [21] (fun vi wz => VcI2 W b a mb sb m c g8 g12 k (.slice (some ⟨bv0, ov0, none⟩) k capv) L vi wz) (fun i _ => (intOf i + 1).toNat)
              case atStart => exact ⟨k, _, _, _, by omega, rfl, by omega, ST.out⟩
              case round =>
                clear ST
                obtain ⟨q, j, made, gone, hq, rfl, hj, hst⟩ := hrel
                have ST := Lib.hid hst
                clear hst
                by_cases hj0 : 0 ≤ j
                · obtain ⟨p, rfl⟩ : ∃ p : Nat, j = (p : Int) := ⟨j.toNat, by omega⟩
                  have bn := BN.out
                  have eq : q = p + 1 := by omega
                  obtain ⟨xq, hrq, heq⟩ := GET.out p (by omega) q made gone wr ST.out
                  have RQ := Lib.hid hrq
                  have LQ : Hid (xq.length = 4) := heq.len
                  have TQ := Lib.hid (TAKE.out p (by omega) q made gone wr xq ST.out heq)
                  have EQ := Lib.hid eq
                  have p1 : 0 ≤ (p : Int) := by omega
                  have q1 : (p : Int) < (k : Int) := by omega
                  have q2 : q ≤ 20 := by omega
                  clear hrq heq eq hj hj0
                  go_wp2_with ((with_reducible show wpList _ _ _ _ _ _); (refine wpList_load_mid rfl 49 (.tmp 158) rfl bv0 (ov0 + p * 4) rfl xq _ RQ.out Tryd.underlying49 rfl (by rw [LQ.out]; kernel_rfl) ?_; go_frame))
                  refine TQ.out.mono ?_
                  rintro e y1 ⟨hkp, hpo⟩
                  have TV := ST.out.st.takeV q2 (by have := EQ.out; omega : p < q)
                  rw [if_neg (by have := EQ.out; omega)] at TV
                  rcases hpo with ⟨hne, _, _⟩ | ⟨_, rfl, hv'⟩
                  · exact absurd TV hne
                  obtain ⟨made', gone', ST⟩ : ∃ made' gone', Hid (VcG W b a mb sb m c g8 g12 k k p y1 (.slice (some ⟨bv0, ov0, none⟩) k capv) L made' gone') := ⟨_, _, ST.out.turn hkp hv' (ST.out.st.take' EQ.out (by omega) ST.out.view.mp.apart)⟩
                  clear hkp hv' TQ RQ LQ TV
                  go_wp2_with fail
                  go_roundw
                  case rel => exact ⟨p, _, _, _, by omega, rfl, rfl, ST.out⟩
                  case measure => simp [intOf] <;> omega
                · have hq0 : q = 0 := by omega
                  subst hq0
                  have bn := BN.out
                  have F8 : Hid (wr.heap[g8]? = some (.cells cp.toArray 28 (0, 0))) := by show _ = _; rw [CP.out]; exact ST.out.f8
                  have G0 : Hid (Calls Tryd.prog 10 #[.pointer (some ⟨b, 0, none⟩), .agg cp.toArray] wr fun e w' => e = .returned (.tuple #[.agg cm.toArray, .bool true]) ∧ Below wr.heap.size wr w') := by
                    have h := vwget_any wr b a mb sb m [⟨vcP0, c⟩] made gone vcP0 ST.out.view (vcF_ok 0)
                    rw [ST.out.st.get0, ← CP.out] at h
                    rw [CME.out]
                    exact h
                  have CS : Hid (cm.toArray.size = 35) := by show _ = _; rw [CME.out]; exact mnL_size CK.out
                  have CA : Hid (cm.toArray.all (·.oneCell') = true) := by show _ = _; rw [CME.out]; exact mnL_all _
                  clear hj hq
                  go_wp2_with ((with_reducible show wpList _ _ _ _ _ _); (refine wpList_load_row rfl 28 (.tmp 8) rfl g8 rfl 28 cp.toArray (0, 0) _ F8.out Tryd.underlying28 rfl (by rw [PL.out]; kernel_rfl) ?_; go_frame))
                  refine G0.out.mono ?_
                  rintro e y1 ⟨rfl, bb⟩
                  have ST := Lib.hid (ST.out.below bb)
                  clear bb G0 F8
                  go_upto_region 43 with ((with_reducible show wpList _ _ _ _ _ _); (refine wpList_store_row rfl 37 (.tmp 22) (.tmp 166) rfl y1.heap.size cm.toArray rfl rfl 37 _ (heap_alloc_new _ _) (by rw [CS.out]; kernel_rfl) (by rw [CS.out]; rfl) CA.out ?_; go_frame))
                  obtain ⟨_, f2, f3, f4⟩ := fill_setup (Below.refl y1.heap.size y1) (mnL mnZ).toArray cm.toArray 37
                  generalize hqy2 : World.setRow _ _ _ = y2
                  have ey2 : World.setRow (y1.alloc (.cells (mnL mnZ).toArray 37)) y1.heap.size cm.toArray = y2 := hqy2
                  rw [ey2] at f4
                  have ST := Lib.hid (ST.out.below f4)
                  clear f2 f3 f4 hqy2 ey2 CS CA
                  go_wp2_with fail
                  have LN := vwlen_any y2 b a mb sb m [⟨vcP0, c⟩] made gone ST.out.view
                  rw [ST.out.st.len] at LN
                  refine LN.mono ?_
                  rintro e y3 ⟨rfl, rfl⟩
                  obtain ⟨xq, hrq, heq⟩ := GET.out 0 (by omega) 0 made gone y2 ST.out
                  have RQ := Lib.hid hrq
                  have LQ : Hid (xq.length = 4) := heq.len
                  have TQ := Lib.hid (TAKE.out 0 (by omega) 0 made gone y2 xq ST.out heq)
                  have k0 : (0 : Int) < (k : Int) := by omega
                  clear hrq heq LN
                  go_wp2_with ((with_reducible show wpList _ _ _ _ _ _); (refine wpList_load_midG 49 (.tmp 180) rfl bv0 _ rfl xq _ RQ.out Tryd.underlying49 rfl (by rw [LQ.out]; kernel_rfl) rfl ?_; go_frame))
                  refine TQ.out.mono ?_
                  rintro e y4 ⟨hkp, hpo⟩
                  have TV := ST.out.st.takeV0
                  rcases hpo with ⟨_, rfl, hv'⟩ | ⟨h0, _, _⟩
                  · rw [TV]
                    have ST := Lib.hid (ST.out.turn hkp hv' ST.out.st)
                    clear hkp hv' TQ RQ LQ TV
                    go_wp2_with fail
                    refine (is_any E 23 123 true (by decide) y4 (HE.out.below ST.out.bel) (by omega)).mono ?_
                    rintro e y5 ⟨rfl, bb⟩
                    have ST := Lib.hid (ST.out.below bb)
                    clear bb
                    go_wp2_with fail
                    refine (setlen_any y5 a m [⟨vcP0, c⟩] ST.out.view.set).mono ?_
                    rintro e y6 ⟨rfl, rfl⟩
                    go_wp2_with fail
                    go_ret
                    exact ⟨rfl, ST.out.bel⟩
                  · rw [TV] at h0
                    exact absurd h0 (by decide)
            · rw [TV] at h0
              exact absurd h0 (by decide)
          · rw [if_neg hA] at TV
            rcases hpo with ⟨hne, _, _⟩ | ⟨_, rfl, hv'⟩
            · exact absurd TV hne
            · obtain ⟨made', gone', ST⟩ : ∃ made' gone', Hid (VcG W b a mb sb m c g8 g12 k k A x6 (.slice (some ⟨bv0, ov0, none⟩) k capv) L made' gone') := ⟨_, _, ST.out.turn hkp hv' (ST.out.st.take' (by omega) (by omega) ST.out.view.mp.apart)⟩
              clear hkp hv' TA RA LA TV
              have t1 : ¬ (A : Int) < (k : Int) - 1 := by omega
              have t2 : ((A : Int) == (k : Int) - 1) = true := by rw [beq_iff_eq]; omega
              go_wp2_with fail
              go_loopw [21] (fun vi wz => VcI2 W b a mb sb m c g8 g12 k (.slice (some ⟨bv0, ov0, none⟩) k capv) L vi wz) (fun i _ => (intOf i + 1).toNat)
              case atStart => exact ⟨A, _, _, _, by omega, rfl, by omega, ST.out⟩
              case round =>
                clear ST
                obtain ⟨q, j, made, gone, hq, rfl, hj, hst⟩ := hrel
                have ST := Lib.hid hst
                clear hst
                by_cases hj0 : 0 ≤ j
                · obtain ⟨p, rfl⟩ : ∃ p : Nat, j = (p : Int) := ⟨j.toNat, by omega⟩
                  have bn := BN.out
                  have eq : q = p + 1 := by omega
                  obtain ⟨xq, hrq, heq⟩ := GET.out p (by omega) q made gone wr ST.out
                  have RQ := Lib.hid hrq
                  have LQ : Hid (xq.length = 4) := heq.len
                  have TQ := Lib.hid (TAKE.out p (by omega) q made gone wr xq ST.out heq)
                  have EQ := Lib.hid eq
                  have p1 : 0 ≤ (p : Int) := by omega
                  have q1 : (p : Int) < (k : Int) := by omega
                  have q2 : q ≤ 20 := by omega
                  clear hrq heq eq hj hj0
                  go_wp2_with ((with_reducible show wpList _ _ _ _ _ _); (refine wpList_load_mid rfl 49 (.tmp 158) rfl bv0 (ov0 + p * 4) rfl xq _ RQ.out Tryd.underlying49 rfl (by rw [LQ.out]; kernel_rfl) ?_; go_frame))
                  refine TQ.out.mono ?_
                  rintro e y1 ⟨hkp, hpo⟩
                  have TV := ST.out.st.takeV q2 (by have := EQ.out; omega : p < q)
                  rw [if_neg (by have := EQ.out; omega)] at TV
                  rcases hpo with ⟨hne, _, _⟩ | ⟨_, rfl, hv'⟩
                  · exact absurd TV hne
                  obtain ⟨made', gone', ST⟩ : ∃ made' gone', Hid (VcG W b a mb sb m c g8 g12 k k p y1 (.slice (some ⟨bv0, ov0, none⟩) k capv) L made' gone') := ⟨_, _, ST.out.turn hkp hv' (ST.out.st.take' EQ.out (by omega) ST.out.view.mp.apart)⟩
                  clear hkp hv' TQ RQ LQ TV
                  go_wp2_with fail
                  go_roundw
                  case rel => exact ⟨p, _, _, _, by omega, rfl, rfl, ST.out⟩
                  case measure => simp [intOf] <;> omega
                · have hq0 : q = 0 := by omega
                  subst hq0
                  have bn := BN.out
                  have F8 : Hid (wr.heap[g8]? = some (.cells cp.toArray 28 (0, 0))) := by show _ = _; rw [CP.out]; exact ST.out.f8
                  have G0 : Hid (Calls Tryd.prog 10 #[.pointer (some ⟨b, 0, none⟩), .agg cp.toArray] wr fun e w' => e = .returned (.tuple #[.agg cm.toArray, .bool true]) ∧ Below wr.heap.size wr w') := by
                    have h := vwget_any wr b a mb sb m [⟨vcP0, c⟩] made gone vcP0 ST.out.view (vcF_ok 0)
                    rw [ST.out.st.get0, ← CP.out] at h
                    rw [CME.out]
                    exact h
                  have CS : Hid (cm.toArray.size = 35) := by show _ = _; rw [CME.out]; exact mnL_size CK.out
                  have CA : Hid (cm.toArray.all (·.oneCell') = true) := by show _ = _; rw [CME.out]; exact mnL_all _
                  clear hj hq
                  go_wp2_with ((with_reducible show wpList _ _ _ _ _ _); (refine wpList_load_row rfl 28 (.tmp 8) rfl g8 rfl 28 cp.toArray (0, 0) _ F8.out Tryd.underlying28 rfl (by rw [PL.out]; kernel_rfl) ?_; go_frame))
                  refine G0.out.mono ?_
                  rintro e y1 ⟨rfl, bb⟩
                  have ST := Lib.hid (ST.out.below bb)
                  clear bb G0 F8
                  go_upto_region 43 with ((with_reducible show wpList _ _ _ _ _ _); (refine wpList_store_row rfl 37 (.tmp 22) (.tmp 166) rfl y1.heap.size cm.toArray rfl rfl 37 _ (heap_alloc_new _ _) (by rw [CS.out]; kernel_rfl) (by rw [CS.out]; rfl) CA.out ?_; go_frame))
                  obtain ⟨_, f2, f3, f4⟩ := fill_setup (Below.refl y1.heap.size y1) (mnL mnZ).toArray cm.toArray 37
                  generalize hqy2 : World.setRow _ _ _ = y2
                  have ey2 : World.setRow (y1.alloc (.cells (mnL mnZ).toArray 37)) y1.heap.size cm.toArray = y2 := hqy2
                  rw [ey2] at f4
                  have ST := Lib.hid (ST.out.below f4)
                  clear f2 f3 f4 hqy2 ey2 CS CA
                  go_wp2_with fail
                  have LN := vwlen_any y2 b a mb sb m [⟨vcP0, c⟩] made gone ST.out.view
                  rw [ST.out.st.len] at LN
                  refine LN.mono ?_
                  rintro e y3 ⟨rfl, rfl⟩
                  obtain ⟨xq, hrq, heq⟩ := GET.out 0 (by omega) 0 made gone y2 ST.out
                  have RQ := Lib.hid hrq
                  have LQ : Hid (xq.length = 4) := heq.len
                  have TQ := Lib.hid (TAKE.out 0 (by omega) 0 made gone y2 xq ST.out heq)
                  have k0 : (0 : Int) < (k : Int) := by omega
                  clear hrq heq LN
                  go_wp2_with ((with_reducible show wpList _ _ _ _ _ _); (refine wpList_load_midG 49 (.tmp 180) rfl bv0 _ rfl xq _ RQ.out Tryd.underlying49 rfl (by rw [LQ.out]; kernel_rfl) rfl ?_; go_frame))
                  refine TQ.out.mono ?_
                  rintro e y4 ⟨hkp, hpo⟩
                  have TV := ST.out.st.takeV0
                  rcases hpo with ⟨_, rfl, hv'⟩ | ⟨h0, _, _⟩
                  · rw [TV]
                    have ST := Lib.hid (ST.out.turn hkp hv' ST.out.st)
                    clear hkp hv' TQ RQ LQ TV
                    go_wp2_with fail
                    refine (is_any E 23 123 true (by decide) y4 (HE.out.below ST.out.bel) (by omega)).mono ?_
                    rintro e y5 ⟨rfl, bb⟩
                    have ST := Lib.hid (ST.out.below bb)
                    clear bb
                    go_wp2_with fail
                    refine (setlen_any y5 a m [⟨vcP0, c⟩] ST.out.view.set).mono ?_
                    rintro e y6 ⟨rfl, rfl⟩
                    go_wp2_with fail
                    go_ret
                    exact ⟨rfl, ST.out.bel⟩
                  · rw [TV] at h0
                    exact absurd h0 (by decide)
end Go.Proofs.YtgcoegbamoehfaaDoor.Sha
