/-
  Texts of this proof joined into one file: VlSaysWalk, ErrVlk, ShaFast, KpMath. What each holds, and under which conditions, its own first sentence tells.
-/
import Derived.Stop.LaidErr
import Derived.Test.YtlpdgjneoahdeaaDoorMg11
import Derived.Test.YtlpdgjneoahdeaaDoorMg04
import Derived.Test.YtlpdgjneoahdeaaDoorMg06
import Derived.Test.YtlpdgjneoahdeaaDoorRows
import Derived.Test.YtlpdgjneoahdeaaDoorMg01
import Derived.Test.YtlpdgjneoahdeaaDoorMg05
/-
  Package value is what the chapter says. Conditions: the transaction and the coins lie in memory; the errors and the table of the rounds' words are there.
-/
namespace Go.Proofs.YtlpdgjneoahdeaaDoor.Sha
open Go Go.RowKit
set_option maxHeartbeats 2000000 in
set_option maxRecDepth 100000 in
theorem valuesays_main (E : Nat → Addr) (height halving hat mat : Int) (c : TMn) (t : TTx) (ms : List TMn) (r : TRu) (v vm : Value) (w : World) (hx : -9223372036854775808 ≤ height ∧ height ≤ 9223372036854775807) (hc : MnOk c) (h : TxAt w v t) (hov : ∀ y ∈ t.outs, y.val ≤ 18446744073709551615) (hh : RwAt 35 w vm (ms.map mnL)) (hok : ∀ m ∈ ms, MnOk m) (hat1 : -9223372036854775808 ≤ hat ∧ hat ≤ 9223372036854775807) (hmt : -9223372036854775808 ≤ mat ∧ mat ≤ 9223372036854775807) (hE : Errs w E) (hK : KTab w) :
    Calls Tryd.prog 3 #[.int .i64 height, .int .i64 halving, .agg (mnL c).toArray, .int .i64 hat, .int .i64 mat, v, vm, .agg (ruL r).toArray] w fun e w' => e = .returned (.bool true) ∧ Below w.heap.size w w' := by
  have FEE : Hid (∀ W, Below w.heap.size w W → t.ins.length ≤ 20 → t.outs.length ≤ 20 → ms.length ≤ 20 → Calls Tryd.prog 7 #[v, vm] W fun e w' => ∃ u, e = .returned (.tuple #[.int .u64 ((feeR t ms).1 : Int), u]) ∧ FltV w' E u (feeR t ms).2 ∧ Below W.heap.size W w') := fun W hW b1 b2 b3 => vlfee_any E W v vm t ms (h.below hW) (hh.below hW) hok (by omega) (by omega) (by omega) (hE.below hW).fee (fun W2 hW2 => hK.below (hW.trans (hW2.mono hW.size)))
  have REF : Hid (∀ W, Below w.heap.size w W → t.ins.length ≤ 20 → t.outs.length ≤ 20 → Calls Tryd.prog 8 #[v, vm] W fun e w' => e = .returned (.tuple #[.int .u64 ((feeR t ms).1 : Int), .agg (fltL (feeR t ms).2).toArray]) ∧ Below W.heap.size W w') := fun W hW b1 b2 => by
    have h2 := rfee_all W v vm t ms (h.below hW) (hh.below hW) hok hov (by omega) (by omega)
    rw [feeL_of] at h2
    exact h2
  have SF : Hid (∀ W0 u, Below w.heap.size w W0 → FltV W0 E u (feeR t ms).2 → ∀ W, Below W0.heap.size W0 W → Calls Tryd.prog 14 #[u, .agg (fltL (feeR t ms).2).toArray] W fun e w' => e = .returned (.bool true) ∧ Below W.heap.size W w') := fun W0 u h0 hu W hW => same_flt E _ u W ((hE.below h0).below hW) (feeR_le t ms) (hu.below hW)
  obtain ⟨rw0, hrw⟩ : ∃ n, n = rewN height halving := ⟨_, rfl⟩
  have RW1 : Hid (∀ W, Calls Tryd.prog 10 #[.int .i64 height, .int .i64 halving] W fun e w' => e = .returned (.int .u64 (rw0 : Int)) ∧ Below W.heap.size W w') := fun W => by
    rw [hrw]
    refine (vlreward_any W height halving hx.1 hx.2).mono ?_
    rintro e w' ⟨h, rfl⟩
    exact ⟨h, Below.refl _ _⟩
  have RW2 : Hid (∀ W, Calls Tryd.prog 11 #[.int .i64 height, .int .i64 halving] W fun e w' => e = .returned (.int .u64 (rw0 : Int)) ∧ Below W.heap.size W w') := fun W => by
    rw [hrw]
    refine (rreward_any W height halving hx.1 hx.2).mono ?_
    rintro e w' ⟨h, rfl⟩
    exact ⟨h, Below.refl _ _⟩
  obtain ⟨rp, hrp⟩ : ∃ b, b = ripeB c hat mat := ⟨_, rfl⟩
  obtain ⟨near, hnear⟩ : ∃ p : Prop, p = (0 ≤ c.height ∧ c.height ≤ 1073741824 ∧ 0 ≤ mat ∧ mat ≤ 1073741824) := ⟨_, rfl⟩
  have RP1 : Hid (near → ∀ W, Calls Tryd.prog 12 #[.agg (mnL c).toArray, .int .i64 hat, .int .i64 mat] W fun e w' => e = .returned (.bool rp) ∧ Below W.heap.size W w') := fun hn W => by
    rw [hnear] at hn
    rw [hrp]
    exact vlripe_any W c hat mat hc (by omega) (by omega)
  have RP2 : Hid (near → ∀ W, Calls Tryd.prog 13 #[.agg (mnL c).toArray, .int .i64 hat, .int .i64 mat] W fun e w' => e = .returned (.bool rp) ∧ Below W.heap.size W w') := fun hn W => by
    rw [hnear] at hn
    rw [hrp]
    exact rripe_any W c hat mat hc (by omega) (by omega)
  obtain ⟨kc, hkc⟩ : ∃ k : Nat, k = if rulesB r then 0 else 22 := ⟨_, rfl⟩
  have VR : Hid (∀ W, Below w.heap.size w W → Calls Tryd.prog 16 #[.agg (ruL r).toArray] W fun e w' => e = .returned (errV E kc) ∧ Below W.heap.size W w') := fun W hW => by rw [hkc]; exact vlrules_any E r W (hE.below hW).rng
  have RR : Hid (∀ W, Calls Tryd.prog 9 #[.agg (ruL r).toArray] W fun e w' => e = .returned (.bool (rulesB r)) ∧ Below W.heap.size W w') := fun W => rrules_any r W
  have IE : Hid (∀ W, Below w.heap.size w W → Calls Tryd.prog 15 #[errV E kc, .int .i64 (numE kc)] W fun e w' => e = .returned (.bool true) ∧ Below W.heap.size W w') := fun W hW => is_any E kc (numE kc) true (by simp) W (hE.below hW) (by rw [hkc]; split <;> omega)
  have KT : Hid (rulesB r = true → numE kc = 0) := fun h => by rw [hkc, if_pos h]; rfl
  have KF : Hid (rulesB r = false → numE kc = 122) := fun h => by rw [hkc, h]; rfl
  obtain ⟨kr, hkr⟩ : ∃ z : Int, z = numE kc := ⟨_, rfl⟩
  rw [← hkr] at IE KT KF
  obtain ⟨rb, hrb⟩ : ∃ b, b = rulesB r := ⟨_, rfl⟩
  rw [← hrb] at RR KT KF
  have LRS : Hid ((ruL r).toArray.size = 9) := ruL_size r
  have LMS : Hid ((mnL c).toArray.size = 35) := mnL_size hc
  have CH : Hid (∀ (W : World) (g : Nat), W.heap[g]? = some (.cells (mnL c).toArray 26 (0, 0)) → W.cell? ⟨g, 33, none⟩ = some (.int .i64 c.height)) := fun W g hg => by
    have h := mn_height hc.1 (range_of_box hg)
    rwa [Nat.zero_add] at h
  obtain ⟨sm, cm, hsm⟩ := hh.shape
  rw [List.length_map] at hsm
  obtain ⟨_, iv, ov, hv, hin, hou⟩ := h
  have TONE : Hid ((txL t iv ov).toArray.all (·.oneCell') = true) := tx_one hin hou
  obtain ⟨si, ci, hsi, _, _⟩ := hin
  obtain ⟨so, co, hso, _, _⟩ := hou
  have LTS : Hid ((txL t iv ov).toArray.size = 4) := rfl
  have CO : Hid (∀ (W : World) (g : Nat), W.heap[g]? = some (.cells (txL t iv ov).toArray 31 (0, 0)) → W.cell? ⟨g, 1, none⟩ = some (.slice si t.ins.length ci) ∧ W.cell? ⟨g, 2, none⟩ = some (.slice so t.outs.length co)) := fun W g hg => by rw [← hsi, ← hso]; exact ⟨(tx_cells hg).2.1, (tx_cells hg).2.2.1⟩
  rw [hv] at FEE REF ⊢
  rw [hsm] at FEE REF ⊢
  obtain ⟨ct, hct⟩ : ∃ ct, ct = txL t iv ov := ⟨_, rfl⟩
  rw [← hct] at FEE REF TONE LTS CO ⊢
  obtain ⟨cmn, hcm⟩ : ∃ l, l = mnL c := ⟨_, rfl⟩
  rw [← hcm] at RP1 RP2 LMS CH ⊢
  obtain ⟨cru, hcr⟩ : ∃ l, l = ruL r := ⟨_, rfl⟩
  rw [← hcr] at VR RR LRS ⊢
  have LFS : Hid ((fltL (feeR t ms).2).toArray.size = 5) := fltL_len _
  have FON : Hid ((fltL (feeR t ms).2).toArray.all (·.oneCell') = true) := fltL_all _
  obtain ⟨cf, hcf⟩ : ∃ l, l = fltL (feeR t ms).2 := ⟨_, rfl⟩
  rw [← hcf] at REF SF LFS FON
  obtain ⟨fr, hfr⟩ : ∃ q, q = (feeR t ms).2 := ⟨_, rfl⟩
  rw [← hfr] at FEE SF
  obtain ⟨fv, hfv⟩ : ∃ q, q = (feeR t ms).1 := ⟨_, rfl⟩
  rw [← hfv] at FEE REF
  obtain ⟨ni, hni⟩ : ∃ n, n = t.ins.length := ⟨_, rfl⟩
  obtain ⟨no, hno⟩ : ∃ n, n = t.outs.length := ⟨_, rfl⟩
  obtain ⟨nm, hnm⟩ : ∃ n, n = ms.length := ⟨_, rfl⟩
  rw [← hni] at FEE REF CO
  rw [← hno] at FEE REF CO
  rw [← hnm] at FEE REF ⊢
  obtain ⟨ch, hch⟩ : ∃ n, n = c.height := ⟨_, rfl⟩
  rw [← hch] at CH hnear
  have ZZ : Hid (([.int .i64 0, .bool false, .int .i64 0, .bool false, .int .i64 0] : List Value).toArray.size = cf.toArray.size) := by show _ = _; rw [LFS.out]; rfl
  clear hrw hrp hkc hkr hrb hct hcm hcr hcf hfr hfv hni hno hnm hch hsm hv hsi hso hov hok hh hE hK
  go_enter Tryd.func3, Tryd.ntmps3
  go_upto_region 1 with fail
  have s0 : Below w.heap.size w w := Below.refl _ _
  have f10 := heap_alloc_new w (.cells cmn.toArray 26 (0, 0))
  have q10 := (Below.refl w.heap.size w).alloc (Nat.le_refl _) (.cells cmn.toArray 26 (0, 0))
  obtain ⟨a1, ha1⟩ : ∃ x, x = w.alloc (.cells cmn.toArray 26 (0, 0)) := ⟨_, rfl⟩
  have za1 : a1.heap.size = w.heap.size + 1 := by rw [ha1, World.size_alloc]
  rw [← ha1] at f10 q10 ⊢
  have f13 := heap_alloc_new a1 (.cells ct.toArray 31 (0, 0))
  have q13 := (Below.refl a1.heap.size a1).alloc (Nat.le_refl _) (.cells ct.toArray 31 (0, 0))
  obtain ⟨a2, ha2⟩ : ∃ x, x = a1.alloc (.cells ct.toArray 31 (0, 0)) := ⟨_, rfl⟩
  have za2 : a2.heap.size = a1.heap.size + 1 := by rw [ha2, World.size_alloc]
  rw [← ha2] at f13 q13 ⊢
  have f15 := heap_alloc_new a2 (.cells cru.toArray 34 (0, 0))
  have q15 := (Below.refl a2.heap.size a2).alloc (Nat.le_refl _) (.cells cru.toArray 34 (0, 0))
  obtain ⟨w1, hw1⟩ : ∃ x, x = a2.alloc (.cells cru.toArray 34 (0, 0)) := ⟨_, rfl⟩
  have zw1 : w1.heap.size = a2.heap.size + 1 := by rw [hw1, World.size_alloc]
  rw [← hw1] at f15 q15 ⊢
  rw [za1] at f13 za2
  rw [za2] at f15
  obtain ⟨g15, hg15⟩ : ∃ g, g = w.heap.size + 1 + 1 := ⟨_, rfl⟩
  rw [← hg15] at f15 ⊢
  obtain ⟨g13, hg13⟩ : ∃ g, g = w.heap.size + 1 := ⟨_, rfl⟩
  rw [← hg13] at f13 ⊢
  obtain ⟨g10, hg10⟩ : ∃ g, g = w.heap.size := ⟨_, rfl⟩
  rw [← hg10] at f10 ⊢
  have F10 := Lib.hid (row_below (row_below f10 q13) q15)
  have F13 := Lib.hid (row_below f13 q15)
  have F15 := Lib.hid f15
  have BB := Lib.hid ((q10.trans (q13.mono q10.size)).trans (q15.mono (q10.trans (q13.mono q10.size)).size))
  clear f10 f13 f15 q10 q13 q15 ha1 ha2 hw1 za1 za2 zw1 hg10 hg13 hg15 s0
  go_wp2_with fail
  refine (vlfirst_any _).mono ?_
  rintro e w2 ⟨rfl, rfl⟩
  obtain ⟨c1, c2⟩ := CO.out _ _ F13.out
  by_cases h1 : 20 < ni
  · have i1 : (20 : Int) < (ni : Int) := by omega
    go_wp2_with fail
    go_ret
    exact ⟨rfl, BB.out⟩
  have i1 : ¬ (20 : Int) < (ni : Int) := by omega
  by_cases h2 : 20 < no
  · have i2 : (20 : Int) < (no : Int) := by omega
    go_wp2_with fail
    go_ret
    exact ⟨rfl, BB.out⟩
  have i2 : ¬ (20 : Int) < (no : Int) := by omega
  by_cases h3 : 20 < nm
  · have i3 : (20 : Int) < (nm : Int) := by omega
    go_wp2_with fail
    go_ret
    exact ⟨rfl, BB.out⟩
  have i3 : ¬ (20 : Int) < (nm : Int) := by omega
  have S20 : Hid (ni ≤ 20 ∧ no ≤ 20 ∧ nm ≤ 20) := ⟨by omega, by omega, by omega⟩
  clear h1 h2 h3
  go_upto_region 6 with fail
  clear c1 c2 i1 i2 i3
  have c33 := CH.out _ _ F10.out
  have NR := Lib.hid hnear
  clear hnear
  go_cut [18] (fun v18 wx => ∃ far : Bool, v18 = .bool far ∧ (far = false → near) ∧ w1 = wx)
  case first =>
    by_cases h1 : ch < 0
    · go_wp2_with fail
      go_meet
      exact ⟨true, rfl, fun h => (by cases h), rfl⟩
    by_cases h2 : 1073741824 < ch
    · go_wp2_with fail
      go_meet
      exact ⟨true, rfl, fun h => (by cases h), rfl⟩
    by_cases h3 : mat < 0
    · go_wp2_with fail
      go_meet
      exact ⟨true, rfl, fun h => (by cases h), rfl⟩
    by_cases h4 : 1073741824 < mat
    · go_wp2_with fail
      go_meet
      exact ⟨true, rfl, fun h => (by cases h), rfl⟩
    go_wp2_with fail
    go_meet
    exact ⟨false, rfl, fun _ => by rw [NR.out]; omega, rfl⟩
  case rest =>
    obtain ⟨far, rfl, hfar, rfl⟩ := hcut
    have NF := Lib.hid hfar
    clear hfar NR c33
    go_wp2_with ((with_reducible show wpList _ _ _ _ _ _); (refine wpList_load_row rfl 31 (.tmp 13) rfl g13 rfl 31 ct.toArray (0, 0) _ F13.out Tryd.underlying31 rfl (by rw [LTS.out]; kernel_rfl) ?_; go_frame))
    refine (FEE.out w1 BB.out S20.out.1 S20.out.2.1 S20.out.2.2).mono ?_
    rintro e w2 ⟨u, rfl, hu, bb⟩
    have UF := Lib.hid hu
    have F10 := Lib.hid (row_below F10.out bb)
    have F13 := Lib.hid (row_below F13.out bb)
    have F15 := Lib.hid (row_below F15.out bb)
    have BB := Lib.hid (BB.out.trans (bb.mono BB.out.size))
    clear bb hu FEE
    go_wp2_with ((with_reducible show wpList _ _ _ _ _ _); (refine wpList_load_row rfl 31 (.tmp 13) rfl g13 rfl 31 ct.toArray (0, 0) _ F13.out Tryd.underlying31 rfl (by rw [LTS.out]; kernel_rfl) ?_; go_frame))
    refine (REF.out w2 BB.out S20.out.1 S20.out.2.1).mono ?_
    rintro e w3 ⟨rfl, bb⟩
    have UF := Lib.hid (UF.out.below bb)
    have F10 := Lib.hid (row_below F10.out bb)
    have F15 := Lib.hid (row_below F15.out bb)
    have BB := Lib.hid (BB.out.trans (bb.mono BB.out.size))
    clear bb REF F13
    go_upto_region 9 with ((with_reducible show wpList _ _ _ _ _ _); (refine wpList_store_row rfl 41 (.tmp 22) (.tmp 70) rfl w3.heap.size cf.toArray rfl rfl 41 _ (heap_alloc_new _ _) (by rw [LFS.out]; kernel_rfl) (by rw [LFS.out]; rfl) FON.out ?_; go_frame))
    obtain ⟨_, f2, f3, f4⟩ := fill_setup (Below.refl w3.heap.size w3) [.int .i64 0, .bool false, .int .i64 0, .bool false, .int .i64 0].toArray cf.toArray 41
    generalize hqw4 : World.setRow _ _ _ = w4
    have ew4 : World.setRow (w3.alloc (.cells [.int .i64 0, .bool false, .int .i64 0, .bool false, .int .i64 0].toArray 41)) w3.heap.size cf.toArray = w4 := hqw4
    rw [ew4] at f2 f3 f4
    obtain ⟨g22, hg22⟩ : ∃ g22, g22 = w3.heap.size := ⟨_, rfl⟩
    rw [← hg22] at f2 ⊢
    have F22 := Lib.hid f2
    have Ng22 : Hid (w3.heap.size ≤ g22) := by show _ ≤ _; rw [hg22]; exact Nat.le_refl _
    have UF := Lib.hid (UF.out.below f4)
    have F10 := Lib.hid (row_below F10.out f4)
    have F15 := Lib.hid (row_below F15.out f4)
    have BB := Lib.hid (BB.out.trans (f4.mono BB.out.size))
    clear f2 f3 f4 hqw4 ew4 hg22
    go_wp2_with ((with_reducible show wpList _ _ _ _ _ _); (refine wpList_load_row rfl 34 (.tmp 15) rfl g15 rfl 34 cru.toArray (0, 0) _ F15.out Tryd.underlying34 rfl (by rw [LRS.out]; kernel_rfl) ?_; go_frame))
    refine (RR.out w4).mono ?_
    rintro e wr ⟨rfl, bb⟩
    have UF := Lib.hid (UF.out.below bb)
    have F10 := Lib.hid (row_below F10.out bb)
    have F15 := Lib.hid (row_below F15.out bb)
    have F22 := Lib.hid (row_below F22.out bb)
    have BB := Lib.hid (BB.out.trans (bb.mono BB.out.size))
    have SF := Lib.hid (SF.out wr u BB.out UF.out)
    have VR : Hid (∀ W, Below wr.heap.size wr W → Calls Tryd.prog 16 #[.agg cru.toArray] W fun e w' => e = .returned (errV E kc) ∧ Below W.heap.size W w') := fun W hW => VR.out W (BB.out.trans (hW.mono BB.out.size))
    have IE : Hid (∀ W, Below wr.heap.size wr W → Calls Tryd.prog 15 #[errV E kc, .int .i64 kr] W fun e w' => e = .returned (.bool true) ∧ Below W.heap.size W w') := fun W hW => IE.out W (BB.out.trans (hW.mono BB.out.size))
    clear bb UF
    go_upto_if 72 with fail
    go_cut [23] (fun v23 wx => v23 = .int .i64 kr ∧ wr = wx)
    case first =>
      cases rb with
      | true =>
        go_wp2_with fail
        go_meet
        exact ⟨by rw [KT.out (by first | trivial | rfl)], rfl⟩
      | false =>
        go_wp2_with fail
        go_meet
        exact ⟨by rw [KF.out (by first | trivial | rfl)], rfl⟩
    case rest =>
      obtain ⟨rfl, rfl⟩ := hcut
      go_upto_region 12 with fail
      cases far with
      | true =>
        refine wp_region_held_drew (S := (fun w' => Below wr.heap.size wr w')) (by kernel_rfl) (Below.drew (Below.refl _ _)) (fun hHeld => ?_)
        generalize hwd : wr.drew = wd at  hHeld ⊢
        clear hwd
        refine held_take (i := 0) (v := (.bool true)) rfl (by kernel_rfl) (by kernel_rfl) (by kernel_rfl) (fun _ _ _ h => h) (Or.inl ⟨by rfl, fun w' _ => by kernel_rfl⟩) hHeld ?_
        go_frame
        refine held_take (i := 1) (v := (.bool true)) rfl (by kernel_rfl) (by kernel_rfl) (by kernel_rfl) (fun _ _ _ h => h) (Or.inl ⟨by rfl, fun w' _ => by kernel_rfl⟩) hHeld ?_
        go_frame
        refine held_take (i := 2) (v := (.int .i64 height)) rfl (by kernel_rfl) (by kernel_rfl) (by kernel_rfl) (fun _ _ _ h => h) (Or.inl ⟨by rfl, fun w' _ => by kernel_rfl⟩) hHeld ?_
        go_frame
        refine held_take (i := 3) (v := (.int .i64 halving)) rfl (by kernel_rfl) (by kernel_rfl) (by kernel_rfl) (fun _ _ _ h => h) (Or.inl ⟨by rfl, fun w' _ => by kernel_rfl⟩) hHeld ?_
        go_frame
        refine held_take (i := 5) (v := (.int .i64 height)) rfl (by kernel_rfl) (by kernel_rfl) (by kernel_rfl) (fun _ _ _ h => h) (Or.inl ⟨by rfl, fun w' _ => by kernel_rfl⟩) hHeld ?_
        go_frame
        refine held_take (i := 6) (v := (.int .i64 halving)) rfl (by kernel_rfl) (by kernel_rfl) (by kernel_rfl) (fun _ _ _ h => h) (Or.inl ⟨by rfl, fun w' _ => by kernel_rfl⟩) hHeld ?_
        go_frame
        refine wpAnyH_ready (rs := [4]) (by kernel_rfl) (by simp) (held_cons rfl (fun K hK => ?_) AllReadyH.nil)
        rw [if_pos (by rfl)]
        go_simp
        refine (RW1.out _).mono ?_
        rintro e v1 ⟨rfl, bb⟩
        have hv1 := hHeld.trans (bb.mono hHeld.size)
        clear bb hHeld
        go_wp2_with fail
        refine hK.out _ _ hv1 (fun hHeld => ?_)
        clear hK K hv1
        refine wpAnyH_ready (rs := [7]) (by kernel_rfl) (by simp) (held_cons rfl (fun K hK => ?_) AllReadyH.nil)
        rw [if_pos (by rfl)]
        go_simp
        refine (RW2.out _).mono ?_
        rintro e v2 ⟨rfl, bb⟩
        have hv2 := hHeld.trans (bb.mono hHeld.size)
        clear bb hHeld
        go_wp2_with fail
        refine hK.out _ _ hv2 (fun hHeld => ?_)
        clear hK K hv2
        refine held_take (i := 8) (v := (.bool true)) rfl (by kernel_rfl) (by kernel_rfl) (by kernel_rfl) (fun _ _ _ h => h) (Or.inl ⟨by rfl, fun w' _ => by go_simp⟩) hHeld ?_
        go_frame
        refine held_take (i := 9) (v := (.bool true)) rfl (by kernel_rfl) (by kernel_rfl) (by kernel_rfl) (fun _ _ _ h => h) (Or.inl ⟨by rfl, fun w' _ => by go_simp⟩) hHeld ?_
        go_frame
        refine held_take (i := 10) (v := (.bool true)) rfl (by kernel_rfl) (by kernel_rfl) (by kernel_rfl) (fun _ _ _ h => h) (Or.inl ⟨by rfl, fun w' _ => by kernel_rfl⟩) hHeld ?_
        go_frame
        refine held_take (i := 11) (v := (.bool true)) rfl (by kernel_rfl) (by kernel_rfl) (by kernel_rfl) (fun _ _ _ h => h) (Or.inl ⟨by rfl, fun w' _ => by kernel_rfl⟩) hHeld ?_
        go_frame
        refine held_take (i := 12) (v := (.bool true)) rfl (by kernel_rfl) (by kernel_rfl) (by kernel_rfl) (fun _ _ _ h => h) (Or.inl ⟨by rfl, fun w' _ => by kernel_rfl⟩) hHeld ?_
        go_frame
        refine held_take (i := 13) (v := undef) rfl (by kernel_rfl) (by kernel_rfl) (by kernel_rfl) (fun _ _ _ h => h) (Or.inr ⟨by rfl, by rfl⟩) hHeld ?_
        go_frame
        refine held_take (i := 14) (v := undef) rfl (by kernel_rfl) (by kernel_rfl) (by kernel_rfl) (fun _ _ _ h => h) (Or.inr ⟨by rfl, by rfl⟩) hHeld ?_
        go_frame
        refine held_take (i := 15) (v := undef) rfl (by kernel_rfl) (by kernel_rfl) (by kernel_rfl) (fun _ _ _ h => h) (Or.inr ⟨by rfl, by rfl⟩) hHeld ?_
        go_frame
        refine held_take (i := 16) (v := undef) rfl (by kernel_rfl) (by kernel_rfl) (by kernel_rfl) (fun _ _ _ h => h) (Or.inr ⟨by rfl, by rfl⟩) hHeld ?_
        go_frame
        refine held_take (i := 17) (v := undef) rfl (by kernel_rfl) (by kernel_rfl) (by kernel_rfl) (fun _ _ _ h => h) (Or.inr ⟨by rfl, by rfl⟩) hHeld ?_
        go_frame
        refine held_take (i := 18) (v := undef) rfl (by kernel_rfl) (by kernel_rfl) (by kernel_rfl) (fun _ _ _ h => h) (Or.inr ⟨by rfl, by rfl⟩) hHeld ?_
        go_frame
        refine held_take (i := 19) (v := undef) rfl (by kernel_rfl) (by kernel_rfl) (by kernel_rfl) (fun _ _ _ h => h) (Or.inr ⟨by rfl, by rfl⟩) hHeld ?_
        go_frame
        refine held_take (i := 20) (v := undef) rfl (by kernel_rfl) (by kernel_rfl) (by kernel_rfl) (fun _ _ _ h => h) (Or.inr ⟨by rfl, by rfl⟩) hHeld ?_
        go_frame
        refine held_take (i := 21) (v := undef) rfl (by kernel_rfl) (by kernel_rfl) (by kernel_rfl) (fun _ _ _ h => h) (Or.inr ⟨by rfl, by rfl⟩) hHeld ?_
        go_frame
        refine held_take (i := 22) (v := (.bool true)) rfl (by kernel_rfl) (by kernel_rfl) (by kernel_rfl) (fun _ _ _ h => h) (Or.inl ⟨by rfl, fun w' _ => by go_simp⟩) hHeld ?_
        go_frame
        refine held_take (i := 23) (v := (.bool true)) rfl (by kernel_rfl) (by kernel_rfl) (by kernel_rfl) (fun _ _ _ h => h) (Or.inl ⟨by rfl, fun w' _ => by go_simp⟩) hHeld ?_
        go_frame
        refine held_take (i := 24) (v := (.bool true)) rfl (by kernel_rfl) (by kernel_rfl) (by kernel_rfl) (fun _ _ _ h => h) (Or.inl ⟨by rfl, fun w' _ => by kernel_rfl⟩) hHeld ?_
        go_frame
        refine held_take (i := 25) (v := (.int .u64 (fv : Int))) rfl (by kernel_rfl) (by kernel_rfl) (by kernel_rfl) (fun _ _ _ h => h) (Or.inl ⟨by rfl, fun w' _ => by kernel_rfl⟩) hHeld ?_
        go_frame
        refine held_take (i := 26) (v := (.int .u64 (fv : Int))) rfl (by kernel_rfl) (by kernel_rfl) (by kernel_rfl) (fun _ _ _ h => h) (Or.inl ⟨by rfl, fun w' _ => by kernel_rfl⟩) hHeld ?_
        go_frame
        refine held_take (i := 27) (v := (.bool true)) rfl (by kernel_rfl) (by kernel_rfl) (by kernel_rfl) (fun _ _ _ h => h) (Or.inl ⟨by rfl, fun w' _ => by go_simp⟩) hHeld ?_
        go_frame
        refine held_take (i := 28) (v := (.bool true)) rfl (by kernel_rfl) (by kernel_rfl) (by kernel_rfl) (fun _ _ _ h => h) (Or.inl ⟨by rfl, fun w' _ => by go_simp⟩) hHeld ?_
        go_frame
        refine held_take (i := 29) (v := (.bool true)) rfl (by kernel_rfl) (by kernel_rfl) (by kernel_rfl) (fun _ _ _ h => h) (Or.inl ⟨by rfl, fun w' _ => by kernel_rfl⟩) hHeld ?_
        go_frame
        refine held_take (i := 30) (v := u) rfl (by kernel_rfl) (by kernel_rfl) (by kernel_rfl) (fun _ _ _ h => h) (Or.inl ⟨by rfl, fun w' _ => by kernel_rfl⟩) hHeld ?_
        go_frame
        refine held_take (i := 31) (v := (.agg cf.toArray)) rfl (by kernel_rfl) (by kernel_rfl) (by kernel_rfl) (fun _ _ _ h => h) (yieldsIf_load_row (by rfl) 41 (.tmp 22) rfl g22 rfl 41 cf.toArray (0, 0) _ (fun w' hw' => row_below F22.out hw') Tryd.underlying41 rfl (by rw [LFS.out]; kernel_rfl)) hHeld ?_
        go_frame
        refine wpAnyH_ready (rs := [32]) (by kernel_rfl) (by simp) (held_cons rfl (fun K hK => ?_) AllReadyH.nil)
        rw [if_pos (by rfl)]
        go_simp
        refine (SF.out _ hHeld).mono ?_
        rintro e v3 ⟨rfl, bb⟩
        have hv3 := hHeld.trans (bb.mono hHeld.size)
        clear bb hHeld
        go_wp2_with fail
        refine hK.out _ _ hv3 (fun hHeld => ?_)
        clear hK K hv3
        refine held_take (i := 33) (v := (.bool true)) rfl (by kernel_rfl) (by kernel_rfl) (by kernel_rfl) (fun _ _ _ h => h) (Or.inl ⟨by rfl, fun w' _ => by go_simp⟩) hHeld ?_
        go_frame
        refine held_take (i := 34) (v := (.bool true)) rfl (by kernel_rfl) (by kernel_rfl) (by kernel_rfl) (fun _ _ _ h => h) (Or.inl ⟨by rfl, fun w' _ => by kernel_rfl⟩) hHeld ?_
        go_frame
        refine held_take (i := 35) (v := (.agg cru.toArray)) rfl (by kernel_rfl) (by kernel_rfl) (by kernel_rfl) (fun _ _ _ h => h) (yieldsIf_load_row (by rfl) 34 (.tmp 15) rfl g15 rfl 34 cru.toArray (0, 0) _ (fun w' hw' => row_below F15.out hw') Tryd.underlying34 rfl (by rw [LRS.out]; kernel_rfl)) hHeld ?_
        go_frame
        refine held_take (i := 37) (v := (.int .i64 kr)) rfl (by kernel_rfl) (by kernel_rfl) (by kernel_rfl) (fun _ _ _ h => h) (Or.inl ⟨by rfl, fun w' _ => by kernel_rfl⟩) hHeld ?_
        go_frame
        refine wpAnyH_ready (rs := [36]) (by kernel_rfl) (by simp) (held_cons rfl (fun K hK => ?_) AllReadyH.nil)
        rw [if_pos (by rfl)]
        go_simp
        refine (VR.out _ hHeld).mono ?_
        rintro e v4 ⟨rfl, bb⟩
        have hv4 := hHeld.trans (bb.mono hHeld.size)
        clear bb hHeld
        go_wp2_with fail
        refine hK.out _ _ hv4 (fun hHeld => ?_)
        clear hK K hv4
        refine wpAnyH_ready (rs := [38]) (by kernel_rfl) (by simp) (held_cons rfl (fun K hK => ?_) AllReadyH.nil)
        rw [if_pos (by rfl)]
        go_simp
        refine (IE.out _ hHeld).mono ?_
        rintro e v5 ⟨rfl, bb⟩
        have hv5 := hHeld.trans (bb.mono hHeld.size)
        clear bb hHeld
        go_wp2_with fail
        refine hK.out _ _ hv5 (fun hHeld => ?_)
        clear hK K hv5
        refine held_take (i := 39) (v := (.bool true)) rfl (by kernel_rfl) (by kernel_rfl) (by kernel_rfl) (fun _ _ _ h => h) (Or.inl ⟨by rfl, fun w' _ => by go_simp⟩) hHeld ?_
        go_frame
        refine held_take (i := 40) (v := (.bool true)) rfl (by kernel_rfl) (by kernel_rfl) (by kernel_rfl) (fun _ _ _ h => h) (Or.inl ⟨by rfl, fun w' _ => by kernel_rfl⟩) hHeld ?_
        go_frame
        refine wpAnyH_done (by kernel_rfl) ?_ _
        have BZ := Lib.hid (BB.out.trans (hHeld.mono BB.out.size))
        clear hHeld
        go_wp2_with fail
        go_ret
        exact ⟨rfl, BZ.out⟩
      | false =>
        have RP1 := Lib.hid (RP1.out (NF.out rfl))
        have RP2 := Lib.hid (RP2.out (NF.out rfl))
        refine wp_region_held_drew (S := (fun w' => Below wr.heap.size wr w')) (by kernel_rfl) (Below.drew (Below.refl _ _)) (fun hHeld => ?_)
        generalize hwd : wr.drew = wd at  hHeld ⊢
        clear hwd
        refine held_take (i := 0) (v := (.bool true)) rfl (by kernel_rfl) (by kernel_rfl) (by kernel_rfl) (fun _ _ _ h => h) (Or.inl ⟨by rfl, fun w' _ => by kernel_rfl⟩) hHeld ?_
        go_frame
        refine held_take (i := 1) (v := (.bool true)) rfl (by kernel_rfl) (by kernel_rfl) (by kernel_rfl) (fun _ _ _ h => h) (Or.inl ⟨by rfl, fun w' _ => by kernel_rfl⟩) hHeld ?_
        go_frame
        refine held_take (i := 2) (v := (.int .i64 height)) rfl (by kernel_rfl) (by kernel_rfl) (by kernel_rfl) (fun _ _ _ h => h) (Or.inl ⟨by rfl, fun w' _ => by kernel_rfl⟩) hHeld ?_
        go_frame
        refine held_take (i := 3) (v := (.int .i64 halving)) rfl (by kernel_rfl) (by kernel_rfl) (by kernel_rfl) (fun _ _ _ h => h) (Or.inl ⟨by rfl, fun w' _ => by kernel_rfl⟩) hHeld ?_
        go_frame
        refine held_take (i := 5) (v := (.int .i64 height)) rfl (by kernel_rfl) (by kernel_rfl) (by kernel_rfl) (fun _ _ _ h => h) (Or.inl ⟨by rfl, fun w' _ => by kernel_rfl⟩) hHeld ?_
        go_frame
        refine held_take (i := 6) (v := (.int .i64 halving)) rfl (by kernel_rfl) (by kernel_rfl) (by kernel_rfl) (fun _ _ _ h => h) (Or.inl ⟨by rfl, fun w' _ => by kernel_rfl⟩) hHeld ?_
        go_frame
        refine wpAnyH_ready (rs := [4]) (by kernel_rfl) (by simp) (held_cons rfl (fun K hK => ?_) AllReadyH.nil)
        rw [if_pos (by rfl)]
        go_simp
        refine (RW1.out _).mono ?_
        rintro e v1 ⟨rfl, bb⟩
        have hv1 := hHeld.trans (bb.mono hHeld.size)
        clear bb hHeld
        go_wp2_with fail
        refine hK.out _ _ hv1 (fun hHeld => ?_)
        clear hK K hv1
        refine wpAnyH_ready (rs := [7]) (by kernel_rfl) (by simp) (held_cons rfl (fun K hK => ?_) AllReadyH.nil)
        rw [if_pos (by rfl)]
        go_simp
        refine (RW2.out _).mono ?_
        rintro e v2 ⟨rfl, bb⟩
        have hv2 := hHeld.trans (bb.mono hHeld.size)
        clear bb hHeld
        go_wp2_with fail
        refine hK.out _ _ hv2 (fun hHeld => ?_)
        clear hK K hv2
        refine held_take (i := 8) (v := (.bool true)) rfl (by kernel_rfl) (by kernel_rfl) (by kernel_rfl) (fun _ _ _ h => h) (Or.inl ⟨by rfl, fun w' _ => by go_simp⟩) hHeld ?_
        go_frame
        refine held_take (i := 9) (v := (.bool true)) rfl (by kernel_rfl) (by kernel_rfl) (by kernel_rfl) (fun _ _ _ h => h) (Or.inl ⟨by rfl, fun w' _ => by go_simp⟩) hHeld ?_
        go_frame
        refine held_take (i := 10) (v := (.bool true)) rfl (by kernel_rfl) (by kernel_rfl) (by kernel_rfl) (fun _ _ _ h => h) (Or.inl ⟨by rfl, fun w' _ => by kernel_rfl⟩) hHeld ?_
        go_frame
        refine held_take (i := 11) (v := (.bool false)) rfl (by kernel_rfl) (by kernel_rfl) (by kernel_rfl) (fun _ _ _ h => h) (Or.inl ⟨by rfl, fun w' _ => by kernel_rfl⟩) hHeld ?_
        go_frame
        refine held_take (i := 12) (v := (.bool false)) rfl (by kernel_rfl) (by kernel_rfl) (by kernel_rfl) (fun _ _ _ h => h) (Or.inl ⟨by rfl, fun w' _ => by kernel_rfl⟩) hHeld ?_
        go_frame
        refine held_take (i := 13) (v := (.agg cmn.toArray)) rfl (by kernel_rfl) (by kernel_rfl) (by kernel_rfl) (fun _ _ _ h => h) (yieldsIf_load_row (by rfl) 26 (.tmp 10) rfl g10 rfl 26 cmn.toArray (0, 0) _ (fun w' hw' => row_below F10.out hw') Tryd.underlying26 rfl (by rw [LMS.out]; kernel_rfl)) hHeld ?_
        go_frame
        refine held_take (i := 14) (v := (.int .i64 hat)) rfl (by kernel_rfl) (by kernel_rfl) (by kernel_rfl) (fun _ _ _ h => h) (Or.inl ⟨by rfl, fun w' _ => by kernel_rfl⟩) hHeld ?_
        go_frame
        refine held_take (i := 15) (v := (.int .i64 mat)) rfl (by kernel_rfl) (by kernel_rfl) (by kernel_rfl) (fun _ _ _ h => h) (Or.inl ⟨by rfl, fun w' _ => by kernel_rfl⟩) hHeld ?_
        go_frame
        refine held_take (i := 17) (v := (.agg cmn.toArray)) rfl (by kernel_rfl) (by kernel_rfl) (by kernel_rfl) (fun _ _ _ h => h) (yieldsIf_load_row (by rfl) 26 (.tmp 10) rfl g10 rfl 26 cmn.toArray (0, 0) _ (fun w' hw' => row_below F10.out hw') Tryd.underlying26 rfl (by rw [LMS.out]; kernel_rfl)) hHeld ?_
        go_frame
        refine held_take (i := 18) (v := (.int .i64 hat)) rfl (by kernel_rfl) (by kernel_rfl) (by kernel_rfl) (fun _ _ _ h => h) (Or.inl ⟨by rfl, fun w' _ => by kernel_rfl⟩) hHeld ?_
        go_frame
        refine held_take (i := 19) (v := (.int .i64 mat)) rfl (by kernel_rfl) (by kernel_rfl) (by kernel_rfl) (fun _ _ _ h => h) (Or.inl ⟨by rfl, fun w' _ => by kernel_rfl⟩) hHeld ?_
        go_frame
        refine wpAnyH_ready (rs := [16]) (by kernel_rfl) (by simp) (held_cons rfl (fun K hK => ?_) AllReadyH.nil)
        rw [if_pos (by rfl)]
        go_simp
        refine (RP1.out _).mono ?_
        rintro e v3 ⟨rfl, bb⟩
        have hv3 := hHeld.trans (bb.mono hHeld.size)
        clear bb hHeld
        go_wp2_with fail
        refine hK.out _ _ hv3 (fun hHeld => ?_)
        clear hK K hv3
        refine wpAnyH_ready (rs := [20]) (by kernel_rfl) (by simp) (held_cons rfl (fun K hK => ?_) AllReadyH.nil)
        rw [if_pos (by rfl)]
        go_simp
        refine (RP2.out _).mono ?_
        rintro e v4 ⟨rfl, bb⟩
        have hv4 := hHeld.trans (bb.mono hHeld.size)
        clear bb hHeld
        go_wp2_with fail
        refine hK.out _ _ hv4 (fun hHeld => ?_)
        clear hK K hv4
        refine held_take (i := 21) (v := (.bool true)) rfl (by kernel_rfl) (by kernel_rfl) (by kernel_rfl) (fun _ _ _ h => h) (Or.inl ⟨by rfl, fun w' _ => by go_simp⟩) hHeld ?_
        go_frame
        refine held_take (i := 22) (v := (.bool true)) rfl (by kernel_rfl) (by kernel_rfl) (by kernel_rfl) (fun _ _ _ h => h) (Or.inl ⟨by rfl, fun w' _ => by go_simp⟩) hHeld ?_
        go_frame
        refine held_take (i := 23) (v := (.bool true)) rfl (by kernel_rfl) (by kernel_rfl) (by kernel_rfl) (fun _ _ _ h => h) (Or.inl ⟨by rfl, fun w' _ => by go_simp⟩) hHeld ?_
        go_frame
        refine held_take (i := 24) (v := (.bool true)) rfl (by kernel_rfl) (by kernel_rfl) (by kernel_rfl) (fun _ _ _ h => h) (Or.inl ⟨by rfl, fun w' _ => by kernel_rfl⟩) hHeld ?_
        go_frame
        refine held_take (i := 25) (v := (.int .u64 (fv : Int))) rfl (by kernel_rfl) (by kernel_rfl) (by kernel_rfl) (fun _ _ _ h => h) (Or.inl ⟨by rfl, fun w' _ => by kernel_rfl⟩) hHeld ?_
        go_frame
        refine held_take (i := 26) (v := (.int .u64 (fv : Int))) rfl (by kernel_rfl) (by kernel_rfl) (by kernel_rfl) (fun _ _ _ h => h) (Or.inl ⟨by rfl, fun w' _ => by kernel_rfl⟩) hHeld ?_
        go_frame
        refine held_take (i := 27) (v := (.bool true)) rfl (by kernel_rfl) (by kernel_rfl) (by kernel_rfl) (fun _ _ _ h => h) (Or.inl ⟨by rfl, fun w' _ => by go_simp⟩) hHeld ?_
        go_frame
        refine held_take (i := 28) (v := (.bool true)) rfl (by kernel_rfl) (by kernel_rfl) (by kernel_rfl) (fun _ _ _ h => h) (Or.inl ⟨by rfl, fun w' _ => by go_simp⟩) hHeld ?_
        go_frame
        refine held_take (i := 29) (v := (.bool true)) rfl (by kernel_rfl) (by kernel_rfl) (by kernel_rfl) (fun _ _ _ h => h) (Or.inl ⟨by rfl, fun w' _ => by kernel_rfl⟩) hHeld ?_
        go_frame
        refine held_take (i := 30) (v := u) rfl (by kernel_rfl) (by kernel_rfl) (by kernel_rfl) (fun _ _ _ h => h) (Or.inl ⟨by rfl, fun w' _ => by kernel_rfl⟩) hHeld ?_
        go_frame
        refine held_take (i := 31) (v := (.agg cf.toArray)) rfl (by kernel_rfl) (by kernel_rfl) (by kernel_rfl) (fun _ _ _ h => h) (yieldsIf_load_row (by rfl) 41 (.tmp 22) rfl g22 rfl 41 cf.toArray (0, 0) _ (fun w' hw' => row_below F22.out hw') Tryd.underlying41 rfl (by rw [LFS.out]; kernel_rfl)) hHeld ?_
        go_frame
        refine wpAnyH_ready (rs := [32]) (by kernel_rfl) (by simp) (held_cons rfl (fun K hK => ?_) AllReadyH.nil)
        rw [if_pos (by rfl)]
        go_simp
        refine (SF.out _ hHeld).mono ?_
        rintro e v5 ⟨rfl, bb⟩
        have hv5 := hHeld.trans (bb.mono hHeld.size)
        clear bb hHeld
        go_wp2_with fail
        refine hK.out _ _ hv5 (fun hHeld => ?_)
        clear hK K hv5
        refine held_take (i := 33) (v := (.bool true)) rfl (by kernel_rfl) (by kernel_rfl) (by kernel_rfl) (fun _ _ _ h => h) (Or.inl ⟨by rfl, fun w' _ => by go_simp⟩) hHeld ?_
        go_frame
        refine held_take (i := 34) (v := (.bool true)) rfl (by kernel_rfl) (by kernel_rfl) (by kernel_rfl) (fun _ _ _ h => h) (Or.inl ⟨by rfl, fun w' _ => by kernel_rfl⟩) hHeld ?_
        go_frame
        refine held_take (i := 35) (v := (.agg cru.toArray)) rfl (by kernel_rfl) (by kernel_rfl) (by kernel_rfl) (fun _ _ _ h => h) (yieldsIf_load_row (by rfl) 34 (.tmp 15) rfl g15 rfl 34 cru.toArray (0, 0) _ (fun w' hw' => row_below F15.out hw') Tryd.underlying34 rfl (by rw [LRS.out]; kernel_rfl)) hHeld ?_
        go_frame
        refine held_take (i := 37) (v := (.int .i64 kr)) rfl (by kernel_rfl) (by kernel_rfl) (by kernel_rfl) (fun _ _ _ h => h) (Or.inl ⟨by rfl, fun w' _ => by kernel_rfl⟩) hHeld ?_
        go_frame
        refine wpAnyH_ready (rs := [36]) (by kernel_rfl) (by simp) (held_cons rfl (fun K hK => ?_) AllReadyH.nil)
        rw [if_pos (by rfl)]
        go_simp
        refine (VR.out _ hHeld).mono ?_
        rintro e v6 ⟨rfl, bb⟩
        have hv6 := hHeld.trans (bb.mono hHeld.size)
        clear bb hHeld
        go_wp2_with fail
        refine hK.out _ _ hv6 (fun hHeld => ?_)
        clear hK K hv6
        refine wpAnyH_ready (rs := [38]) (by kernel_rfl) (by simp) (held_cons rfl (fun K hK => ?_) AllReadyH.nil)
        rw [if_pos (by rfl)]
        go_simp
        refine (IE.out _ hHeld).mono ?_
        rintro e v7 ⟨rfl, bb⟩
        have hv7 := hHeld.trans (bb.mono hHeld.size)
        clear bb hHeld
        go_wp2_with fail
        refine hK.out _ _ hv7 (fun hHeld => ?_)
        clear hK K hv7
        refine held_take (i := 39) (v := (.bool true)) rfl (by kernel_rfl) (by kernel_rfl) (by kernel_rfl) (fun _ _ _ h => h) (Or.inl ⟨by rfl, fun w' _ => by go_simp⟩) hHeld ?_
        go_frame
        refine held_take (i := 40) (v := (.bool true)) rfl (by kernel_rfl) (by kernel_rfl) (by kernel_rfl) (fun _ _ _ h => h) (Or.inl ⟨by rfl, fun w' _ => by kernel_rfl⟩) hHeld ?_
        go_frame
        refine wpAnyH_done (by kernel_rfl) ?_ _
        have BZ := Lib.hid (BB.out.trans (hHeld.mono BB.out.size))
        clear hHeld
        go_wp2_with fail
        go_ret
        exact ⟨rfl, BZ.out⟩
end Go.Proofs.YtlpdgjneoahdeaaDoor.Sha

/-
  What a row that lists 25 errors of package api gives: each is there, each its own; a start that fits. No conditions.
-/
namespace Go.Proofs.YtlpdgjneoahdeaaDoor.Sha
open Go Go.ChangeShapes Go.WideShapes Go.ChangeAt Go.RowKit
/-- The listed errors: name, place, text. -/
def errVlkList : List (String × Nat × List UInt8) := [("sargasso/api.ErrEnd", 5, [105, 116, 32, 101, 110, 100, 115, 32, 116, 111, 111, 32, 101, 97, 114, 108, 121]), ("sargasso/api.ErrShape", 0, [110, 111, 116, 32, 97, 115, 32, 105, 116, 32, 104, 97, 115, 32, 116, 111, 32, 98, 101]), ("sargasso/api.ErrLong", 6, [116, 111, 111, 32, 108, 111, 110, 103]), ("sargasso/api.ErrMany", 7, [116, 111, 111, 32, 109, 97, 110, 121, 44, 32, 111, 114, 32, 116, 111, 111, 32, 102, 101, 119]), ("sargasso/api.ErrValue", 2, [97, 110, 32, 97, 109, 111, 117, 110, 116, 32, 116, 104, 97, 116, 32, 99, 97, 110, 39, 116, 32, 98, 101]), ("sargasso/api.ErrTwice", 8, [111, 110, 101, 32, 116, 104, 105, 110, 103, 32, 116, 119, 105, 99, 101]), ("sargasso/api.ErrBase", 9, [110, 111, 32, 102, 105, 114, 115, 116, 32, 116, 114, 97, 110, 115, 97, 99, 116, 105, 111, 110, 32, 119, 104, 101, 114, 101, 32, 116, 104, 101, 114, 101, 32, 104, 97, 115, 32, 116, 111, 32, 98, 101, 32, 111, 110, 101, 44, 32, 111, 114, 32, 111, 110, 101, 32, 119, 104, 101, 114, 101, 32, 116, 104, 101, 114, 101, 32, 109, 97, 121, 32, 98, 101, 32, 110, 111, 110, 101]), ("sargasso/api.ErrRoot", 10, [97, 32, 114, 111, 111, 116, 32, 116, 104, 97, 116, 32, 100, 111, 101, 115, 32, 110, 111, 116, 32, 102, 105, 116]), ("sargasso/api.ErrKnown", 11, [107, 110, 111, 119, 110, 32, 97, 108, 114, 101, 97, 100, 121]), ("sargasso/api.ErrParent", 12, [110, 111, 32, 115, 117, 99, 104, 32, 112, 97, 114, 101, 110, 116]), ("sargasso/api.ErrInvalid", 13, [98, 101, 104, 105, 110, 100, 32, 119, 104, 97, 116, 32, 105, 115, 32, 110, 111, 116, 32, 118, 97, 108, 105, 100]), ("sargasso/api.ErrTime", 14, [97, 32, 116, 105, 109, 101, 32, 116, 104, 97, 116, 32, 105, 115, 32, 116, 111, 111, 32, 101, 97, 114, 108, 121]), ("sargasso/api.ErrMissing", 15, [97, 32, 99, 111, 105, 110, 32, 116, 104, 97, 116, 32, 105, 115, 32, 110, 111, 116, 32, 116, 104, 101, 114, 101]), ("sargasso/api.ErrKey", 1, [97, 32, 107, 101, 121, 32, 116, 104, 97, 116, 32, 100, 111, 101, 115, 32, 110, 111, 116, 32, 102, 105, 116]), ("sargasso/api.ErrYoung", 16, [97, 32, 99, 111, 105, 110, 32, 116, 104, 97, 116, 32, 105, 115, 32, 116, 111, 111, 32, 121, 111, 117, 110, 103]), ("sargasso/api.ErrEarly", 17, [116, 111, 111, 32, 101, 97, 114, 108, 121, 32, 116, 111, 32, 98, 101, 32, 116, 97, 107, 101, 110]), ("sargasso/api.ErrLess", 3, [108, 101, 115, 115, 32, 99, 111, 109, 101, 115, 32, 105, 110, 32, 116, 104, 97, 110, 32, 103, 111, 101, 115, 32, 111, 117, 116]), ("sargasso/api.ErrReward", 18, [109, 111, 114, 101, 32, 116, 104, 97, 110, 32, 116, 104, 101, 32, 114, 101, 119, 97, 114, 100]), ("sargasso/api.ErrClash", 19, [97, 32, 99, 111, 105, 110, 32, 116, 104, 97, 116, 32, 105, 115, 32, 115, 112, 101, 110, 116, 32, 105, 110, 32, 116, 104, 101, 32, 112, 111, 111, 108]), ("sargasso/api.ErrLimit", 20, [116, 111, 111, 32, 109, 97, 110, 121, 32, 116, 104, 97, 116, 32, 104, 97, 110, 103, 32, 116, 111, 103, 101, 116, 104, 101, 114]), ("sargasso/api.ErrFull", 21, [116, 104, 101, 114, 101, 32, 105, 115, 32, 110, 111, 32, 114, 111, 111, 109]), ("sargasso/api.ErrRange", 4, [97, 32, 110, 117, 109, 98, 101, 114, 32, 111, 117, 116, 32, 111, 102, 32, 105, 116, 115, 32, 114, 97, 110, 103, 101]), ("sargasso/api.ErrNone", 22, [116, 104, 101, 114, 101, 32, 105, 115, 32, 110, 111, 110, 101]), ("sargasso/api.ErrWord", 23, [110, 111, 32, 115, 117, 99, 104, 32, 119, 111, 114, 100]), ("sargasso/api.ErrNumber", 24, [110, 111, 116, 32, 97, 32, 110, 117, 109, 98, 101, 114])]
def errVlkRow (x : String × Nat × List UInt8) : String × DataW Unit := (x.1, .iface "*errors.errorString" (.ptr (.agg [.lit (.string x.2.2)])))
theorem errVlk_globals : (errVlkList.all fun x => decide (Tryd.prog.globalNamed x.1 = some x.2.1) && decide ((Tryd.prog.globals[x.2.1]?).map (·.type) = some 37)) = true := by kernel_rfl
theorem errVlk_star : "*" ++ "errors.errorString" = "*errors.errorString" := by decide
theorem errVlk_ptr (u : TypeId) (h : Tryd.prog.typeName? 3 u = some "*errors.errorString") : u = 114 :=
  typeName_ptr_named (nm := "errors.errorString") (by rw [errVlk_star]; kernel_rfl) (by kernel_rfl) (by decide) u (by rw [errVlk_star]; exact h)
theorem errVlk_cells : Tryd.prog.cellsOf 132 = 1 := by kernel_rfl
theorem errVlk_cellsStr : Tryd.prog.cellsOf 9 = 1 := by kernel_rfl
def errVlkIs (W : World) (x : String × Nat × List UInt8) (a : Addr) : Prop :=
  W.cell? ⟨x.2.1, 0, none⟩ = some (.iface 114 (.pointer (some a))) ∧ (∃ s, W.cell? a = some (.string s) ∧ s.data.toList = x.2.2) ∧ ∃ c t, W.heap[a.block]? = some (.cells c t (0, 0))
set_option maxRecDepth 100000 in
theorem errVlk_head {W : World} {x : String × Nat × List UInt8} {r : List (String × DataW Unit)} (hg : Tryd.prog.globalNamed x.1 = some x.2.1) (ht : (Tryd.prog.globals[x.2.1]?).map (·.type) = some 37) (h : laidMet Tryd.prog (errVlkRow x :: r) W) : ∃ a, errVlkIs W x a := by
  obtain ⟨a, s, h1, h2, h3, _⟩ := laid_sentinel h hg ht Tryd.underlying37 errVlk_ptr Tryd.underlying114 Tryd.underlying132 rfl rfl Tryd.underlying9 errVlk_cells errVlk_cellsStr
  refine ⟨a, by simpa using World.var?_cell hg h1 0, ⟨s, h2, h3⟩, ?_⟩
  obtain ⟨ps, ⟨g0, t0, cs0, f0, p0, q0, hg0, ht0, hv0, hd0, _, e0⟩, _, hrows⟩ := h
  obtain rfl := Option.some.inj (hg.symm.trans hg0)
  obtain rfl := Option.some.inj (ht.symm.trans ht0)
  subst e0
  obtain ⟨l0⟩ := cs0
  have ok0 : ∀ u v, l0 = [.iface u v] → Value.okWide Tryd.prog W .any 0 u v := fun u v e => by
    subst e
    exact (hrows x.2.1 0 (by simp [MemPlace.row])).2 u v (by simpa using World.var?_cell hg hv0 0)
  obtain ⟨a0, s0, rfl, hc0, hs0, hz0, rfl⟩ := errorString_of_trod Tryd.underlying37 errVlk_ptr Tryd.underlying114 Tryd.underlying132 rfl rfl Tryd.underlying9 errVlk_cells errVlk_cellsStr hd0 ok0
  have ea : a0 = a := by
    have := h1.symm.trans hv0
    simp at this
    exact this.symm
  rw [← ea]
  exact (hrows a0.block a0.off (by simp [MemPlace.row])).1
theorem errVlk_all {W : World} (rest : List (String × DataW Unit)) : ∀ l : List (String × Nat × List UInt8), (∀ x ∈ l, Tryd.prog.globalNamed x.1 = some x.2.1 ∧ (Tryd.prog.globals[x.2.1]?).map (·.type) = some 37) → laidMet Tryd.prog (l.map errVlkRow ++ rest) W → (∃ E : Nat → Addr, ∀ i x, l[i]? = some x → errVlkIs W x (E i)) ∧ laidMet Tryd.prog rest W
  | [], _, h => ⟨⟨fun _ => ⟨0, 0, none⟩, fun i x h => by simp at h⟩, h⟩
  | x :: l, hg, h => by
    obtain ⟨⟨E, hE⟩, hrest⟩ := errVlk_all rest l (fun y hy => hg y (List.mem_cons_of_mem _ hy)) (laidMet.tail h)
    obtain ⟨a, ha⟩ := errVlk_head (hg x List.mem_cons_self).1 (hg x List.mem_cons_self).2 h
    refine ⟨⟨fun i => match i with | 0 => a | k + 1 => E k, fun i y hy => ?_⟩, hrest⟩
    cases i with
    | zero => simp at hy; subst hy; exact ha
    | succ k => exact hE k y (by simpa using hy)
theorem errVlk_inj : ∀ i j : Fin 25, (errVlkList.map (·.2.2)).getD i.val [] = (errVlkList.map (·.2.2)).getD j.val [] → i = j := by decide +kernel
set_option maxRecDepth 100000 in
theorem errVlk_errs {W : World} (h : laidMetH Tryd.prog Rows.valueKeepsRow.laid W) : (∃ E, Errs W E) ∧ KTab W := by
  have h' : laidMet Tryd.prog (errVlkList.map errVlkRow ++ [("sargasso/digest.roundWords", Rows.laid_sargasso_digest_roundWords)]) W := h
  obtain ⟨⟨E, hE⟩, hrest⟩ := errVlk_all _ errVlkList (fun x hx => by
    have := List.all_eq_true.1 errVlk_globals x hx
    simp only [Bool.and_eq_true, decide_eq_true_eq] at this
    exact this) h'
  have hl : errVlkList.length = 25 := rfl
  have get : ∀ i (hi : i < 25), errVlkIs W (errVlkList[i]'(by rw [hl]; exact hi)) (E i) := fun i hi => hE i _ (List.getElem?_eq_getElem (by rw [hl]; exact hi))
  refine ⟨⟨E, fun i hi => ?_, fun i j hi hj e => ?_⟩, table hrest⟩
  · obtain ⟨h1, _, h3⟩ := get i hi
    refine ⟨?_, h3⟩
    have eg : errG.getD i 0 = (errVlkList[i]'(by rw [hl]; exact hi)).2.1 := by
      have : errG = errVlkList.map (·.2.1) := rfl
      rw [this]
      simp [List.getD, List.getElem?_eq_getElem (show i < errVlkList.length by rw [hl]; exact hi)]
    rw [eg]
    exact h1
  · obtain ⟨_, ⟨s, hs, ht⟩, _⟩ := get i hi
    obtain ⟨_, ⟨s', hs', ht'⟩, _⟩ := get j hj
    rw [e] at hs
    have es := Option.some.inj (hs.symm.trans hs')
    simp at es
    rw [es] at ht
    have := errVlk_inj ⟨i, hi⟩ ⟨j, hj⟩ (by
      simp only [List.getD, List.getElem?_map]
      rw [List.getElem?_eq_getElem (show i < errVlkList.length by rw [hl]; exact hi), List.getElem?_eq_getElem (show j < errVlkList.length by rw [hl]; exact hj)]
      exact ht.symm.trans ht')
    exact congrArg Fin.val this
/-- A WORLD FOR THE WITNESS: the settled one, each listed error as its initialiser lays it. -/
noncomputable def errVlkLow : Nat := (World.holding Tryd.prog default ⟨#[], #[], []⟩).heap.size
noncomputable def errVlkWorld (os : Os) : World :=
  let w0 := World.holding Tryd.prog os ⟨(errVlkList.map fun x => Obj.cells #[.string ⟨x.2.2.toArray⟩] 132).toArray, #[], []⟩
  { w0 with heap := (errVlkList.zipIdx).foldl (fun h x => h.modify x.1.2.1 fun
      | .cells _ t frozen => .cells #[.iface 114 (.pointer (some ⟨errVlkLow + x.2, 0, none⟩))] t frozen
      | o => o) (w0.heap.modify 25 fun
      | .cells _ t frozen => .cells (kList.map wV).toArray t frozen
      | o => o) }
end Go.Proofs.YtlpdgjneoahdeaaDoor.Sha

/-
  SHA-256 over plain numbers, made so that the kernel reckons it in a moment (each number is reckoned before it goes on); it is what 'sha' is. No program is imported. No conditions.
-/
namespace Go.Proofs.YtlpdgjneoahdeaaDoor.Sha
open Go
noncomputable section
/-- k n, where n is reckoned first. -/
def frc {α : Type} (n : Nat) (k : Nat → α) : α := Nat.rec (k 0) (fun m _ => k (m + 1)) n
theorem frc_eq {α : Type} (n : Nat) (k : Nat → α) : frc n k = k n := by cases n <;> rfl
def frcL {α : Type} : List Nat → (List Nat → α) → α
  | [], k => k []
  | x :: l, k => frc x fun y => frcL l fun ys => k (y :: ys)
theorem frcL_eq {α : Type} : ∀ (l : List Nat) (k : List Nat → α), frcL l k = k l
  | [], _ => rfl
  | x :: l, k => by show frc x _ = _; rw [frc_eq, frcL_eq l]
def rotN (x n : Nat) : Nat := Nat.lor (Nat.shiftRight x n) (Nat.mod (Nat.shiftLeft x (Nat.sub 32 n)) 4294967296)
def ss0 (x : Nat) : Nat := Nat.xor (Nat.xor (rotN x 7) (rotN x 18)) (Nat.shiftRight x 3)
def ss1 (x : Nat) : Nat := Nat.xor (Nat.xor (rotN x 17) (rotN x 19)) (Nat.shiftRight x 10)
def bb0 (x : Nat) : Nat := Nat.xor (Nat.xor (rotN x 2) (rotN x 13)) (rotN x 22)
def bb1 (x : Nat) : Nat := Nat.xor (Nat.xor (rotN x 6) (rotN x 11)) (rotN x 25)
def rdN (b : Nat → Nat) (t : Nat) : Nat := Nat.lor (Nat.lor (Nat.lor (Nat.shiftLeft (b (4 * t)) 24) (Nat.shiftLeft (b (4 * t + 1)) 16)) (Nat.shiftLeft (b (4 * t + 2)) 8)) (b (4 * t + 3))
def firstA (b : Nat → Nat) : Nat → Nat → List Nat → List Nat
  | 0, _, r => r
  | n + 1, t, r => frc (rdN b t) fun x => firstA b n (t + 1) (x :: r)
def schedN : Nat → List Nat → List Nat
  | 0, r => r
  | n + 1, r => frc (Nat.mod (Nat.add (Nat.add (Nat.add (ss1 (r.getD 1 0)) (r.getD 6 0)) (ss0 (r.getD 14 0))) (r.getD 15 0)) 4294967296) fun x => schedN n (x :: r)
def revA : List Nat → List Nat → List Nat
  | [], r => r
  | x :: l, r => revA l (x :: r)
def kN : List Nat := [
  1116352408, 1899447441, 3049323471, 3921009573, 961987163, 1508970993, 2453635748, 2870763221,
  3624381080, 310598401, 607225278, 1426881987, 1925078388, 2162078206, 2614888103, 3248222580,
  3835390401, 4022224774, 264347078, 604807628, 770255983, 1249150122, 1555081692, 1996064986,
  2554220882, 2821834349, 2952996808, 3210313671, 3336571891, 3584528711, 113926993, 338241895,
  666307205, 773529912, 1294757372, 1396182291, 1695183700, 1986661051, 2177026350, 2456956037,
  2730485921, 2820302411, 3259730800, 3345764771, 3516065817, 3600352804, 4094571909, 275423344,
  430227734, 506948616, 659060556, 883997877, 958139571, 1322822218, 1537002063, 1747873779,
  1955562222, 2024104815, 2227730452, 2361852424, 2428436474, 2756734187, 3204031479, 3329325298]
def rndN : List Nat → List Nat → Nat → Nat → Nat → Nat → Nat → Nat → Nat → Nat → List Nat
  | k :: ks, x :: ws, a, b, c, d, e, f, g, h =>
    frc (Nat.mod (Nat.add (Nat.add (Nat.add (Nat.add h (bb1 e)) (Nat.xor (Nat.land e f) (Nat.land g (Nat.sub 4294967295 e)))) k) x) 4294967296) fun t1 =>
    frc (Nat.mod (Nat.add t1 (Nat.add (bb0 a) (Nat.xor (Nat.xor (Nat.land a b) (Nat.land a c)) (Nat.land b c)))) 4294967296) fun a' =>
    frc (Nat.mod (Nat.add d t1) 4294967296) fun e' => rndN ks ws a' a b c e' e f g
  | _, _, a, b, c, d, e, f, g, h => [a, b, c, d, e, f, g, h]
def addN : List Nat → List Nat → List Nat
  | x :: l, y :: m => Nat.mod (Nat.add x y) 4294967296 :: addN l m
  | _, _ => []
def rnd8 (ws : List Nat) (s : List Nat) : List Nat :=
  match s with
  | [a, b, c, d, e, f, g, h] => rndN kN ws a b c d e f g h
  | _ => []
def compN {α : Type} (s : List Nat) (b : Nat → Nat) (k : List Nat → α) : α := frcL (addN s (rnd8 (revA (schedN 48 (firstA b 16 0 [])) []) s)) k
def blksN {α : Type} (p : List Nat) (k : List Nat → α) : Nat → Nat → List Nat → α
  | 0, _, s => k s
  | n + 1, i, s => compN s (fun j => p.getD (64 * i + j) 0) fun s' => blksN p k n (i + 1) s'
def startN : List Nat := [0x6a09e667, 0xbb67ae85, 0x3c6ef372, 0xa54ff53a, 0x510e527f, 0x9b05688c, 0x1f83d9ab, 0x5be0cd19]
def bytesN : List Nat → List Nat
  | [] => []
  | x :: l => Nat.mod (Nat.shiftRight x 24) 256 :: Nat.mod (Nat.shiftRight x 16) 256 :: Nat.mod (Nat.shiftRight x 8) 256 :: Nat.mod x 256 :: bytesN l
def padN (l : List Nat) : List Nat :=
  let n := l.length
  let p := if n % 64 < 56 then 56 - n % 64 else 120 - n % 64
  l ++ (128 :: List.replicate (p - 1) 0) ++ [8 * n / 2 ^ 56 % 256, 8 * n / 2 ^ 48 % 256, 8 * n / 2 ^ 40 % 256, 8 * n / 2 ^ 32 % 256, 8 * n / 2 ^ 24 % 256, 8 * n / 2 ^ 16 % 256, 8 * n / 2 ^ 8 % 256, 8 * n % 256]
def shaN {α : Type} (l : List Nat) (k : List Nat → α) : α := frcL (padN l) fun p => blksN p (fun s => frcL (bytesN s) k) (p.length / 64) 0 startN
theorem rotr_nat (x : UInt32) (n : Nat) (h1 : 1 ≤ n) (h2 : n ≤ 31) : (rotr x n).toNat = rotN x.toNat n := by
  unfold rotr rotN
  rw [UInt32.toNat_or, UInt32.toNat_shiftRight, UInt32.toNat_shiftLeft]
  have e1 : (UInt32.ofNat n).toNat % 32 = n := by rw [UInt32.toNat_ofNat']; omega
  have e2 : (UInt32.ofNat (32 - n)).toNat % 32 = 32 - n := by rw [UInt32.toNat_ofNat']; omega
  rw [e1, e2]
  rfl
theorem shr_nat (x : UInt32) (n : Nat) (h2 : n ≤ 31) : (x >>> UInt32.ofNat n).toNat = Nat.shiftRight x.toNat n := by
  rw [UInt32.toNat_shiftRight]
  have e1 : (UInt32.ofNat n).toNat % 32 = n := by rw [UInt32.toNat_ofNat']; omega
  rw [e1]
  rfl
theorem sS0_nat (x : UInt32) : (sS0 x).toNat = ss0 x.toNat := by
  unfold sS0 ss0
  rw [UInt32.toNat_xor, UInt32.toNat_xor, rotr_nat _ _ (by omega) (by omega), rotr_nat _ _ (by omega) (by omega), shr_nat _ _ (by omega)]
  rfl
theorem sS1_nat (x : UInt32) : (sS1 x).toNat = ss1 x.toNat := by
  unfold sS1 ss1
  rw [UInt32.toNat_xor, UInt32.toNat_xor, rotr_nat _ _ (by omega) (by omega), rotr_nat _ _ (by omega) (by omega), shr_nat _ _ (by omega)]
  rfl
theorem bS0_nat (x : UInt32) : (bS0 x).toNat = bb0 x.toNat := by
  unfold bS0 bb0
  rw [UInt32.toNat_xor, UInt32.toNat_xor, rotr_nat _ _ (by omega) (by omega), rotr_nat _ _ (by omega) (by omega), rotr_nat _ _ (by omega) (by omega)]
  rfl
theorem bS1_nat (x : UInt32) : (bS1 x).toNat = bb1 x.toNat := by
  unfold bS1 bb1
  rw [UInt32.toNat_xor, UInt32.toNat_xor, rotr_nat _ _ (by omega) (by omega), rotr_nat _ _ (by omega) (by omega), rotr_nat _ _ (by omega) (by omega)]
  rfl
theorem shl_nat (x : UInt8) (n : Nat) (h : n ≤ 24) : (x.toUInt32 <<< UInt32.ofNat n).toNat = Nat.shiftLeft x.toNat n := by
  rw [UInt32.toNat_shiftLeft]
  have e1 : (UInt32.ofNat n).toNat % 32 = n := by rw [UInt32.toNat_ofNat']; omega
  rw [e1]
  have h1 : x.toUInt32.toNat = x.toNat := by simp
  rw [h1]
  show x.toNat <<< n % 2 ^ 32 = x.toNat <<< n
  rw [Nat.shiftLeft_eq]
  refine Nat.mod_eq_of_lt ?_
  have h2 : x.toNat < 256 := x.toNat_lt
  have h3 : (2 : Nat) ^ n ≤ 2 ^ 24 := Nat.pow_le_pow_right (by omega) h
  calc x.toNat * 2 ^ n ≤ 255 * 2 ^ 24 := Nat.mul_le_mul (by omega) h3
    _ < 2 ^ 32 := by decide
theorem rd_nat (b : Nat → UInt8) (t : Nat) : (rd b t).toNat = rdN (fun j => (b j).toNat) t := by
  unfold rd rdN
  rw [UInt32.toNat_or, UInt32.toNat_or, UInt32.toNat_or, shl_nat _ _ (by omega), shl_nat _ _ (by omega), shl_nat _ _ (by omega)]
  have h1 : (b (4 * t + 3)).toUInt32.toNat = (b (4 * t + 3)).toNat := by simp
  rw [h1]
  rfl
/-- A row of words, the last one first. -/
def fzRow (b : Nat → UInt8) (t : Nat) : List Nat := ((row b t).map UInt32.toNat).reverse
theorem fzRow_succ (b : Nat → UInt8) (t : Nat) : fzRow b (t + 1) = (nextW b t (row b t)).toNat :: fzRow b t := by
  unfold fzRow
  show ((row b t ++ [nextW b t (row b t)]).map _).reverse = _
  rw [List.map_append, List.reverse_append]
  rfl
theorem fzRow_get (b : Nat → UInt8) (t i : Nat) (h : i < t) : (fzRow b t).getD i 0 = ((row b t).getD (t - 1 - i) 0).toNat := by
  have hl := row_length b t
  unfold fzRow
  have h1 : t - 1 - i < (row b t).length := by omega
  rw [List.getD_eq_getElem?_getD, List.getD_eq_getElem?_getD, List.getElem?_reverse (by simp; omega), List.length_map, hl, List.getElem?_map, List.getElem?_eq_getElem h1]
  rfl
theorem first_row (b : Nat → UInt8) : ∀ n t, t + n ≤ 16 → firstA (fun j => (b j).toNat) n t (fzRow b t) = fzRow b (t + n)
  | 0, _, _ => rfl
  | n + 1, t, h => by
    show frc _ _ = _
    rw [frc_eq, ← rd_nat, ← nextW_low b t (row b t) (by omega), ← fzRow_succ, first_row b n (t + 1) (by omega)]
    congr 1
    omega
theorem add_nat (x y : UInt32) : (x + y).toNat = (x.toNat + y.toNat) % 4294967296 := UInt32.toNat_add x y
theorem sched_row (b : Nat → UInt8) : ∀ n t, 16 ≤ t → schedN n (fzRow b t) = fzRow b (t + n)
  | 0, _, _ => rfl
  | n + 1, t, h => by
    show frc _ _ = _
    have e : Nat.mod (Nat.add (Nat.add (Nat.add (ss1 ((fzRow b t).getD 1 0)) ((fzRow b t).getD 6 0)) (ss0 ((fzRow b t).getD 14 0))) ((fzRow b t).getD 15 0)) 4294967296 = (nextW b t (row b t)).toNat := by
      rw [fzRow_get b t 1 (by omega), fzRow_get b t 6 (by omega), fzRow_get b t 14 (by omega), fzRow_get b t 15 (by omega), ← sS1_nat, ← sS0_nat, nextW_high b t _ h, add_nat, add_nat, add_nat]
      rw [show t - 1 - 1 = t - 2 from by omega, show t - 1 - 6 = t - 7 from by omega, show t - 1 - 14 = t - 15 from by omega, show t - 1 - 15 = t - 16 from by omega]
      simp only [Nat.mod_add_mod]
      rfl
    rw [frc_eq, e, ← fzRow_succ, sched_row b n (t + 1) (by omega)]
    congr 1
    omega
theorem revA_eq : ∀ (l r : List Nat), revA l r = l.reverse ++ r
  | [], _ => rfl
  | x :: l, r => by show revA l (x :: r) = _; rw [revA_eq l]; simp
theorem rows_all (b : Nat → UInt8) : revA (schedN 48 (firstA (fun j => (b j).toNat) 16 0 [])) [] = (row b 64).map UInt32.toNat := by
  have h1 := first_row b 16 0 (by omega)
  have e0 : fzRow b 0 = [] := rfl
  rw [e0] at h1
  rw [h1, sched_row b 48 16 (by omega), revA_eq]
  show ((row b 64).map UInt32.toNat).reverse.reverse ++ [] = _
  simp
theorem kN_eq : kN = kList.map UInt32.toNat := by decide +kernel
def stN (s : St) : List Nat := [s.a.toNat, s.b.toNat, s.c.toNat, s.d.toNat, s.e.toNat, s.f.toNat, s.g.toNat, s.h.toNat]
theorem not_nat (x : UInt32) : (~~~x).toNat = Nat.sub 4294967295 x.toNat := by
  rw [UInt32.toNat_not]
  rfl
theorem T1_nat (s : St) (k w : UInt32) : (T1 s k w).toNat = Nat.mod (Nat.add (Nat.add (Nat.add (Nat.add s.h.toNat (bb1 s.e.toNat)) (Nat.xor (Nat.land s.e.toNat s.f.toNat) (Nat.land s.g.toNat (Nat.sub 4294967295 s.e.toNat)))) k.toNat) w.toNat) 4294967296 := by
  unfold T1
  rw [add_nat, add_nat, add_nat, add_nat, bS1_nat, UInt32.toNat_xor, UInt32.toNat_and, UInt32.toNat_and, not_nat]
  simp only [Nat.mod_add_mod]
  rfl
theorem T12_nat (s : St) (t : UInt32) : (t + T2 s).toNat = Nat.mod (Nat.add t.toNat (Nat.add (bb0 s.a.toNat) (Nat.xor (Nat.xor (Nat.land s.a.toNat s.b.toNat) (Nat.land s.a.toNat s.c.toNat)) (Nat.land s.b.toNat s.c.toNat)))) 4294967296 := by
  unfold T2
  rw [add_nat, add_nat, bS0_nat, UInt32.toNat_xor, UInt32.toNat_xor, UInt32.toNat_and, UInt32.toNat_and, UInt32.toNat_and]
  simp only [Nat.add_mod_mod]
  rfl
theorem rounds_nat (l : List UInt32) (hl : l.length = 64) (s0 : St) : ∀ n t, t + n = 64 → ∀ s, s = rounds l s0 t →
    rndN ((kList.drop t).map UInt32.toNat) ((l.drop t).map UInt32.toNat) s.a.toNat s.b.toNat s.c.toNat s.d.toNat s.e.toNat s.f.toNat s.g.toNat s.h.toNat = stN (rounds l s0 64)
  | 0, t, h, s, hs => by
    obtain rfl : t = 64 := by omega
    rw [List.drop_of_length_le (by omega : l.length ≤ 64), ← hs, List.drop_of_length_le (by decide : kList.length ≤ 64)]
    rfl
  | n + 1, t, h, s, hs => by
    have hk : t < kList.length := by show t < 64; omega
    have ht : t < l.length := by omega
    have ek : kList[t] = kW t := by unfold kW; rw [List.getD_eq_getElem?_getD, List.getElem?_eq_getElem hk]; rfl
    have el : l[t] = l.getD t 0 := by rw [List.getD_eq_getElem?_getD, List.getElem?_eq_getElem ht]; rfl
    rw [List.drop_eq_getElem_cons hk, List.drop_eq_getElem_cons ht, List.map_cons, List.map_cons, ek, el]
    show frc _ (fun t1 => frc _ (fun a' => frc _ (fun e' => rndN _ _ a' _ _ _ e' _ _ _))) = _
    rw [frc_eq, frc_eq, frc_eq, ← T1_nat, ← T12_nat, show Nat.mod (Nat.add s.d.toNat (T1 s (kW t) (l.getD t 0)).toNat) 4294967296 = (s.d + T1 s (kW t) (l.getD t 0)).toNat from (add_nat _ _).symm]
    exact rounds_nat l hl s0 n (t + 1) (by omega) (s.round (kW t) (l.getD t 0)) (by rw [hs]; rfl)
theorem rnd8_st (ws : List Nat) (s : St) : rnd8 ws (stN s) = rndN kN ws s.a.toNat s.b.toNat s.c.toNat s.d.toNat s.e.toNat s.f.toNat s.g.toNat s.h.toNat := rfl
theorem add_st (s r : St) : addN (stN s) (stN r) = stN (s.plus r) := by
  show addN [_, _, _, _, _, _, _, _] [_, _, _, _, _, _, _, _] = [_, _, _, _, _, _, _, _]
  simp only [addN, St.plus, add_nat]
  rfl
theorem rnd_all (l : List UInt32) (hl : l.length = 64) (s : St) : rnd8 (l.map UInt32.toNat) (stN s) = stN (rounds l s 64) := by
  have h := rounds_nat l hl s 64 0 (by omega) s rfl
  rw [List.drop_zero, List.drop_zero, ← kN_eq, ← rnd8_st] at h
  exact h
theorem comp_eq (s : St) (b : Nat → UInt8) : compress s b = s.plus (rounds (row b 64) s 64) := rfl
theorem comp_nat {α : Type} (s : St) (b : Nat → UInt8) (k : List Nat → α) : compN (stN s) (fun j => (b j).toNat) k = k (stN (compress s b)) := by
  unfold compN
  rw [frcL_eq, rows_all, rnd_all _ (row_length b 64) s, add_st, comp_eq]
theorem getD_nat (l : List UInt8) (i : Nat) : (l.map UInt8.toNat).getD i 0 = (l.getD i 0).toNat := by
  rw [List.getD_eq_getElem?_getD, List.getD_eq_getElem?_getD, List.getElem?_map]
  cases l[i]? <;> rfl
theorem blks_nat {α : Type} (p : List UInt8) (k : List Nat → α) : ∀ n i, blksN (p.map UInt8.toNat) k n i (stN (blocks p i)) = k (stN (blocks p (i + n)))
  | 0, _ => rfl
  | n + 1, i => by
    show compN _ _ _ = _
    have e : (fun j => (p.map UInt8.toNat).getD (64 * i + j) 0) = fun j => ((blk p i) j).toNat := by
      funext j
      exact getD_nat p _
    rw [e, comp_nat]
    show blksN _ k n (i + 1) (stN (blocks p (i + 1))) = _
    rw [blks_nat p k n (i + 1)]
    congr 3
    omega
theorem wb_nat (x : UInt32) : (wordBytes x).map UInt8.toNat = [Nat.mod (Nat.shiftRight x.toNat 24) 256, Nat.mod (Nat.shiftRight x.toNat 16) 256, Nat.mod (Nat.shiftRight x.toNat 8) 256, Nat.mod x.toNat 256] := by
  unfold wordBytes
  simp only [List.map_cons, List.map_nil, UInt32.toNat_toUInt8, shr_nat _ _ (by omega : 24 ≤ 31), shr_nat _ _ (by omega : 16 ≤ 31), shr_nat _ _ (by omega : 8 ≤ 31)]
  rfl
theorem bytes_nat (s : St) : bytesN (stN s) = s.bytes.map UInt8.toNat := by
  unfold St.bytes St.list
  simp only [List.flatMap_cons, List.flatMap_nil, List.map_append, wb_nat, List.map_nil]
  rfl
theorem len8_nat (n : Nat) (k : Nat) : (lenByte n k).toNat = 8 * n / 2 ^ (56 - 8 * k) % 256 := by
  unfold lenByte
  exact UInt8.toNat_ofNat' 
theorem pad_nat (l : List UInt8) : padN (l.map UInt8.toNat) = (padded l).map UInt8.toNat := by
  unfold padN padded pad len8
  simp only [List.map_append, List.length_map, List.map_cons, List.map_replicate, List.map_nil, len8_nat, Nat.mul_zero, Nat.sub_zero, Nat.mul_one, Nat.reduceMul, Nat.reduceSub, Nat.pow_zero, Nat.div_one]
  rfl
theorem sha_nat {α : Type} (l : List UInt8) (k : List Nat → α) : shaN (l.map UInt8.toNat) k = k ((sha l).map UInt8.toNat) := by
  unfold shaN
  rw [frcL_eq, pad_nat, List.length_map]
  have h := blks_nat (padded l) (fun s => frcL (bytesN s) k) ((padded l).length / 64) 0
  have e : stN (blocks (padded l) 0) = startN := rfl
  rw [e] at h
  rw [h, frcL_eq, bytes_nat, Nat.zero_add]
  rfl
end
end Go.Proofs.YtlpdgjneoahdeaaDoor.Sha

/-
  The law that what goes in is what goes out: its transactions, coins and fees as plain values. No conditions.
-/
namespace Go.Proofs.YtlpdgjneoahdeaaDoor.Sha
open Go Go.RowKit
def kpZ : List UInt8 := List.replicate 32 0
def kpK (i : Nat) : List UInt8 := [UInt8.ofNat i, 7]
def kpX (i : Nat) : TIn := ⟨kpZ, 0, kpK i, 0⟩
def kpM (vs : List Nat) (i : Nat) : TMn := ⟨vs.getD i 0, sha (kpK i), 0, false⟩
def kpXs (n : Nat) : List TIn := (List.range n).map kpX
def kpMs (vs : List Nat) (n : Nat) : List TMn := (List.range n).map (kpM vs)
def kpN : TIn := ⟨kpZ, 0, [9], 0⟩
def kpO (v : Nat) : TOut := ⟨v, kpZ⟩
theorem kpXs_succ (n : Nat) : kpXs (n + 1) = kpXs n ++ [kpX n] := by unfold kpXs; rw [List.range_succ, List.map_append]; rfl
theorem kpMs_succ (vs : List Nat) (n : Nat) : kpMs vs (n + 1) = kpMs vs n ++ [kpM vs n] := by unfold kpMs; rw [List.range_succ, List.map_append]; rfl
theorem kpXs_length (n : Nat) : (kpXs n).length = n := by simp [kpXs]
theorem kpMs_length (vs : List Nat) (n : Nat) : (kpMs vs n).length = n := by simp [kpMs]
theorem kpXs_get {n i : Nat} (h : i < n) : (kpXs n)[i]? = some (kpX i) := by unfold kpXs; rw [List.getElem?_map, List.getElem?_range h]; rfl
theorem kpMs_get {vs : List Nat} {n i : Nat} (h : i < n) : (kpMs vs n)[i]? = some (kpM vs i) := by unfold kpMs; rw [List.getElem?_map, List.getElem?_range h]; rfl
theorem kp_vals (vs : List Nat) : (kpMs vs vs.length).map (·.val) = vs := by
  apply List.ext_getElem?
  intro i
  rw [List.getElem?_map]
  by_cases h : i < vs.length
  · rw [kpMs_get h, List.getElem?_eq_getElem h]
    show some (vs.getD i 0) = _
    rw [List.getD_eq_getElem?_getD, List.getElem?_eq_getElem h]
    rfl
  · rw [List.getElem?_eq_none (by rw [kpMs_length]; omega), List.getElem?_eq_none (by omega)]
    rfl
theorem kp_open1 (i : Nat) : opensL (kpK i) (sha (kpK i)) = true := by unfold opensL; simp [kpK]
theorem kp_nines : ∀ k ∈ List.range 10, shaN [9] id ≠ shaN [k, 7] id := by decide +kernel
theorem kp_nine {k : Nat} (h : k < 10) : opensL [9] (sha (kpK k)) = false := by
  have h1 := kp_nines k (List.mem_range.2 h)
  have e1 := sha_nat [9] id
  have e2 := sha_nat (kpK k) id
  have e3 : (kpK k).map UInt8.toNat = [k, 7] := by
    unfold kpK
    rw [List.map_cons, List.map_cons, UInt8.toNat_ofNat']
    congr 1
    omega
  rw [e3] at e2
  unfold opensL
  rw [Bool.and_eq_false_iff]
  refine .inr (decide_eq_false fun e => h1 ?_)
  rw [e2, show ([9] : List Nat) = ([9] : List UInt8).map UInt8.toNat from rfl, e1, e]
theorem kp_opB_length (vs : List Nat) (n : Nat) (os : List TOut) : (opB ⟨0, kpXs n, os, 0⟩ (kpMs vs n)).length = n := by
  unfold opB
  rw [List.length_map, List.length_zip, kpMs_length]
  show min (kpXs n).length n = n
  rw [kpXs_length, Nat.min_self]
theorem kp_feeA (vs : List Nat) (os : List TOut) : feeR ⟨0, kpXs vs.length, os, 0⟩ (kpMs vs vs.length) = feeW vs (os.map (·.val)) := by
  unfold feeR
  rw [if_neg (by rw [kpMs_length]; show ¬ vs.length ≠ (kpXs vs.length).length; rw [kpXs_length]; simp)]
  rw [shut_no (fun j hj => by
    rw [kp_opB_length] at hj
    rw [opB_get (t := ⟨0, kpXs vs.length, os, 0⟩) (kpXs_get hj) (kpMs_get hj)]
    exact congrArg some (kp_open1 j))]
  rw [kp_vals]
theorem kp_feeB (vs : List Nat) (os : List TOut) (k : Nat) (h : k < vs.length) (h10 : vs.length ≤ 10) : feeR ⟨0, (kpXs vs.length).set k kpN, os, 0⟩ (kpMs vs vs.length) = (0, 14, some k) := by
  unfold feeR
  rw [if_neg (by rw [kpMs_length]; show ¬ vs.length ≠ ((kpXs vs.length).set k kpN).length; rw [List.length_set, kpXs_length]; simp)]
  rw [shut_at (B := opB ⟨0, (kpXs vs.length).set k kpN, os, 0⟩ (kpMs vs vs.length)) (i := k) (fun j hj => by
    rw [opB_get (t := ⟨0, (kpXs vs.length).set k kpN, os, 0⟩) (x := kpX j) (m := kpM vs j) (by show ((kpXs vs.length).set k kpN)[j]? = _; rw [List.getElem?_set_ne (by omega)]; exact kpXs_get (by omega)) (kpMs_get (by omega))]
    exact congrArg some (kp_open1 j)) (by
    rw [opB_get (t := ⟨0, (kpXs vs.length).set k kpN, os, 0⟩) (x := kpN) (m := kpM vs k) (by show ((kpXs vs.length).set k kpN)[k]? = _; rw [List.getElem?_set_self (by rw [kpXs_length]; exact h)]) (kpMs_get h)]
    exact congrArg some (kp_nine (by omega)))]
theorem kp_feeC (xs : List TIn) (os : List TOut) (ms : List TMn) (h : ms.length ≠ xs.length) : feeR ⟨0, xs, os, 0⟩ ms = (0, 2, none) := by
  unfold feeR
  rw [if_pos h]
theorem kp_sum : ∀ (vs : List Nat), (∀ x ∈ vs, x ≤ 209999999999999) → vs.sum ≤ vs.length * 209999999999999
  | [], _ => by simp
  | x :: l, h => by
    have := kp_sum l (fun y hy => h y (List.mem_cons_of_mem _ hy))
    have h2 := h x List.mem_cons_self
    rw [List.sum_cons, List.length_cons, Nat.add_mul]
    omega
theorem kp_w1 (vs : List Nat) (f : Nat) (hs : vs.sum ≤ 2099999999999990) (hf : f ≤ vs.sum) : feeW vs [vs.sum - f] = (f, 0, none) := by
  have h1 : sumIs vs = true := decide_eq_true (by rw [most_eq]; omega)
  have h2 : sumIs [vs.sum - f] = true := decide_eq_true (by rw [most_eq]; simp; omega)
  have h3 : sumL vs = vs.sum := by unfold sumL; rw [if_pos (by rw [most_eq]; omega)]
  have h4 : sumL [vs.sum - f] = vs.sum - f := by unfold sumL; rw [if_pos (by rw [most_eq]; simp; omega)]; simp
  unfold feeW
  rw [h1, h2, h3, h4, if_neg (by decide), if_neg (by omega)]
  congr 1
  omega
theorem kp_w2 (vs : List Nat) (f : Nat) (hs : vs.sum ≤ 2099999999999990) (hf : f ≤ vs.sum) : feeW vs [vs.sum - f, f + 1] = (0, 17, none) := by
  have h1 : sumIs vs = true := decide_eq_true (by rw [most_eq]; omega)
  have e : [vs.sum - f, f + 1].sum = vs.sum + 1 := by simp; omega
  have h2 : sumIs [vs.sum - f, f + 1] = true := decide_eq_true (by rw [most_eq, e]; omega)
  have h3 : sumL vs = vs.sum := by unfold sumL; rw [if_pos (by rw [most_eq]; omega)]
  have h4 : sumL [vs.sum - f, f + 1] = vs.sum + 1 := by unfold sumL; rw [if_pos (by rw [most_eq, e]; omega), e]
  unfold feeW
  rw [h1, h2, h3, h4, if_neg (by decide), if_pos (by omega)]
end Go.Proofs.YtlpdgjneoahdeaaDoor.Sha
