/-
  Package value is what the chapter says. Conditions: the transaction and the coins lie in memory; the errors and the table of the rounds' words are there.
-/
import Derived.Test.YtlpdgjneoahdeaaDoorMg10
import Derived.Test.YtlpdgjneoahdeaaDoorMg04
import Derived.Test.YtlpdgjneoahdeaaDoorMg06
namespace Go.Proofs.YtlpdgjneoahdeaaDoor.Sha
open Go Go.RowKit
set_option maxHeartbeats 2000000 in
set_option maxRecDepth 100000 in
theorem valuesays_main (E : Nat → Addr) (height halving hat mat : Int) (c : TMn) (t : TTx) (ms : List TMn) (r : TRu) (v vm : Value) (w : World) (hx : -9223372036854775808 ≤ height ∧ height ≤ 9223372036854775807) (hc : MnOk c) (h : TxAt w v t) (hov : ∀ y ∈ t.outs, y.val ≤ 18446744073709551615) (hh : RwAt 35 w vm (ms.map mnL)) (hok : ∀ m ∈ ms, MnOk m) (hat1 : -9223372036854775808 ≤ hat ∧ hat ≤ 9223372036854775807) (hmt : -9223372036854775808 ≤ mat ∧ mat ≤ 9223372036854775807) (hE : Errs w E) (hK : KTab w) :
    Calls Tryd.prog 3 #[.int .i64 height, .int .i64 halving, .agg (mnL c).toArray, .int .i64 hat, .int .i64 mat, v, vm, .agg (ruL r).toArray] w fun e w' => e = .returned (.bool true) ∧ Below w.heap.size w w' := by
  have FEE : Hid (∀ W, Below w.heap.size w W → t.ins.length ≤ 20 → t.outs.length ≤ 20 → ms.length ≤ 20 → Calls Tryd.prog 7 #[v, vm] W fun e w' => ∃ u, e = .returned (.tuple #[.int .u64 ((feeR t ms).1 : Int), u]) ∧ FltV w' E u (feeR t ms).2 ∧ Below W.heap.size W w') := fun W hW b1 b2 b3 => vlfee_any E W v vm t ms (h.below hW) (hh.below hW) hok (by omega) (by omega) (by omega) (hE.below hW).fee (fun W2 hW2 => hK.below (hW.trans (hW2.mono hW.size)))
  have REF : Hid (∀ W, Below w.heap.size w W → t.ins.length ≤ 20 → t.outs.length ≤ 20 → Calls Tryd.prog 8 #[v, vm] W fun e w' => e = .returned (.tuple #[.int .u64 ((feeR t ms).1 : Int), .agg (fltL (feeR t ms).2).toArray]) ∧ Below W.heap.size W w') := fun W hW b1 b2 => by
    have h2 := rfee_all W v vm t ms (h.below hW) (hh.below hW) hok hov (by omega) (by omega)
    rw [feeL_of] at h2
    exact h2
  have SF : Hid (∀ W0 u, Below w.heap.size w W0 → FltV W0 E u (feeR t ms).2 → ∀ W, Below W0.heap.size W0 W → Calls Tryd.prog 14 #[u, .agg (fltL (feeR t ms).2).toArray] W fun e w' => e = .returned (.bool true) ∧ Below W.heap.size W w') := fun W0 u h0 hu W hW => same_flt E _ u W ((hE.below h0).below hW) (feeR_le t ms) (hu.below hW)
  obtain ⟨rw0, hrw⟩ : ∃ n, n = rewN height halving := ⟨_, rfl⟩
  have RW1 : Hid (∀ W, Calls Tryd.prog 10 #[.int .i64 height, .int .i64 halving] W fun e w' => e = .returned (.int .u64 (rw0 : Int)) ∧ Below W.heap.size W w') := fun W => by
    rw [hrw]
    refine (vlreward_any W height halving hx.1 hx.2).mono ?_
    rintro e w' ⟨h, rfl⟩
    exact ⟨h, Below.refl _ _⟩
  have RW2 : Hid (∀ W, Calls Tryd.prog 11 #[.int .i64 height, .int .i64 halving] W fun e w' => e = .returned (.int .u64 (rw0 : Int)) ∧ Below W.heap.size W w') := fun W => by
    rw [hrw]
    refine (rreward_any W height halving hx.1 hx.2).mono ?_
    rintro e w' ⟨h, rfl⟩
    exact ⟨h, Below.refl _ _⟩
  obtain ⟨rp, hrp⟩ : ∃ b, b = ripeB c hat mat := ⟨_, rfl⟩
  obtain ⟨near, hnear⟩ : ∃ p : Prop, p = (0 ≤ c.height ∧ c.height ≤ 1073741824 ∧ 0 ≤ mat ∧ mat ≤ 1073741824) := ⟨_, rfl⟩
  have RP1 : Hid (near → ∀ W, Calls Tryd.prog 12 #[.agg (mnL c).toArray, .int .i64 hat, .int .i64 mat] W fun e w' => e = .returned (.bool rp) ∧ Below W.heap.size W w') := fun hn W => by
    rw [hnear] at hn
    rw [hrp]
    exact vlripe_any W c hat mat hc (by omega) (by omega)
  have RP2 : Hid (near → ∀ W, Calls Tryd.prog 13 #[.agg (mnL c).toArray, .int .i64 hat, .int .i64 mat] W fun e w' => e = .returned (.bool rp) ∧ Below W.heap.size W w') := fun hn W => by
    rw [hnear] at hn
    rw [hrp]
    exact rripe_any W c hat mat hc (by omega) (by omega)
  obtain ⟨kc, hkc⟩ : ∃ k : Nat, k = if rulesB r then 0 else 22 := ⟨_, rfl⟩
  have VR : Hid (∀ W, Below w.heap.size w W → Calls Tryd.prog 16 #[.agg (ruL r).toArray] W fun e w' => e = .returned (errV E kc) ∧ Below W.heap.size W w') := fun W hW => by rw [hkc]; exact vlrules_any E r W (hE.below hW).rng
  have RR : Hid (∀ W, Calls Tryd.prog 9 #[.agg (ruL r).toArray] W fun e w' => e = .returned (.bool (rulesB r)) ∧ Below W.heap.size W w') := fun W => rrules_any r W
  have IE : Hid (∀ W, Below w.heap.size w W → Calls Tryd.prog 15 #[errV E kc, .int .i64 (numE kc)] W fun e w' => e = .returned (.bool true) ∧ Below W.heap.size W w') := fun W hW => is_any E kc (numE kc) true (by simp) W (hE.below hW) (by rw [hkc]; split <;> omega)
  have KT : Hid (rulesB r = true → numE kc = 0) := fun h => by rw [hkc, if_pos h]; rfl
  have KF : Hid (rulesB r = false → numE kc = 122) := fun h => by rw [hkc, h]; rfl
  obtain ⟨kr, hkr⟩ : ∃ z : Int, z = numE kc := ⟨_, rfl⟩
  rw [← hkr] at IE KT KF
  obtain ⟨rb, hrb⟩ : ∃ b, b = rulesB r := ⟨_, rfl⟩
  rw [← hrb] at RR KT KF
  have LRS : Hid ((ruL r).toArray.size = 9) := ruL_size r
  have LMS : Hid ((mnL c).toArray.size = 35) := mnL_size hc
  have CH : Hid (∀ (W : World) (g : Nat), W.heap[g]? = some (.cells (mnL c).toArray 26 (0, 0)) → W.cell? ⟨g, 33, none⟩ = some (.int .i64 c.height)) := fun W g hg => by
    have h := mn_height hc.1 (range_of_box hg)
    rwa [Nat.zero_add] at h
  obtain ⟨sm, cm, hsm⟩ := hh.shape
  rw [List.length_map] at hsm
  obtain ⟨_, iv, ov, hv, hin, hou⟩ := h
  have TONE : Hid ((txL t iv ov).toArray.all (·.oneCell') = true) := tx_one hin hou
  obtain ⟨si, ci, hsi, _, _⟩ := hin
  obtain ⟨so, co, hso, _, _⟩ := hou
  have LTS : Hid ((txL t iv ov).toArray.size = 4) := rfl
  have CO : Hid (∀ (W : World) (g : Nat), W.heap[g]? = some (.cells (txL t iv ov).toArray 31 (0, 0)) → W.cell? ⟨g, 1, none⟩ = some (.slice si t.ins.length ci) ∧ W.cell? ⟨g, 2, none⟩ = some (.slice so t.outs.length co)) := fun W g hg => by rw [← hsi, ← hso]; exact ⟨(tx_cells hg).2.1, (tx_cells hg).2.2.1⟩
  rw [hv] at FEE REF ⊢
  rw [hsm] at FEE REF ⊢
  obtain ⟨ct, hct⟩ : ∃ ct, ct = txL t iv ov := ⟨_, rfl⟩
  rw [← hct] at FEE REF TONE LTS CO ⊢
  obtain ⟨cmn, hcm⟩ : ∃ l, l = mnL c := ⟨_, rfl⟩
  rw [← hcm] at RP1 RP2 LMS CH ⊢
  obtain ⟨cru, hcr⟩ : ∃ l, l = ruL r := ⟨_, rfl⟩
  rw [← hcr] at VR RR LRS ⊢
  have LFS : Hid ((fltL (feeR t ms).2).toArray.size = 5) := fltL_len _
  have FON : Hid ((fltL (feeR t ms).2).toArray.all (·.oneCell') = true) := fltL_all _
  obtain ⟨cf, hcf⟩ : ∃ l, l = fltL (feeR t ms).2 := ⟨_, rfl⟩
  rw [← hcf] at REF SF LFS FON
  obtain ⟨fr, hfr⟩ : ∃ q, q = (feeR t ms).2 := ⟨_, rfl⟩
  rw [← hfr] at FEE SF
  obtain ⟨fv, hfv⟩ : ∃ q, q = (feeR t ms).1 := ⟨_, rfl⟩
  rw [← hfv] at FEE REF
  obtain ⟨ni, hni⟩ : ∃ n, n = t.ins.length := ⟨_, rfl⟩
  obtain ⟨no, hno⟩ : ∃ n, n = t.outs.length := ⟨_, rfl⟩
  obtain ⟨nm, hnm⟩ : ∃ n, n = ms.length := ⟨_, rfl⟩
  rw [← hni] at FEE REF CO
  rw [← hno] at FEE REF CO
  rw [← hnm] at FEE REF ⊢
  obtain ⟨ch, hch⟩ : ∃ n, n = c.height := ⟨_, rfl⟩
  rw [← hch] at CH hnear
  have ZZ : Hid (([.int .i64 0, .bool false, .int .i64 0, .bool false, .int .i64 0] : List Value).toArray.size = cf.toArray.size) := by show _ = _; rw [LFS.out]; rfl
  clear hrw hrp hkc hkr hrb hct hcm hcr hcf hfr hfv hni hno hnm hch hsm hv hsi hso hov hok hh hE hK
  go_enter Tryd.func3, Tryd.ntmps3
  go_upto_region 1 with fail
  have s0 : Below w.heap.size w w := Below.refl _ _
  have f10 := heap_alloc_new w (.cells cmn.toArray 26 (0, 0))
  have q10 := (Below.refl w.heap.size w).alloc (Nat.le_refl _) (.cells cmn.toArray 26 (0, 0))
  obtain ⟨a1, ha1⟩ : ∃ x, x = w.alloc (.cells cmn.toArray 26 (0, 0)) := ⟨_, rfl⟩
  have za1 : a1.heap.size = w.heap.size + 1 := by rw [ha1, World.size_alloc]
  rw [← ha1] at f10 q10 ⊢
  have f13 := heap_alloc_new a1 (.cells ct.toArray 31 (0, 0))
  have q13 := (Below.refl a1.heap.size a1).alloc (Nat.le_refl _) (.cells ct.toArray 31 (0, 0))
  obtain ⟨a2, ha2⟩ : ∃ x, x = a1.alloc (.cells ct.toArray 31 (0, 0)) := ⟨_, rfl⟩
  have za2 : a2.heap.size = a1.heap.size + 1 := by rw [ha2, World.size_alloc]
  rw [← ha2] at f13 q13 ⊢
  have f15 := heap_alloc_new a2 (.cells cru.toArray 34 (0, 0))
  have q15 := (Below.refl a2.heap.size a2).alloc (Nat.le_refl _) (.cells cru.toArray 34 (0, 0))
  obtain ⟨w1, hw1⟩ : ∃ x, x = a2.alloc (.cells cru.toArray 34 (0, 0)) := ⟨_, rfl⟩
  have zw1 : w1.heap.size = a2.heap.size + 1 := by rw [hw1, World.size_alloc]
  rw [← hw1] at f15 q15 ⊢
  rw [za1] at f13 za2
  rw [za2] at f15
  obtain ⟨g15, hg15⟩ : ∃ g, g = w.heap.size + 1 + 1 := ⟨_, rfl⟩
  rw [← hg15] at f15 ⊢
  obtain ⟨g13, hg13⟩ : ∃ g, g = w.heap.size + 1 := ⟨_, rfl⟩
  rw [← hg13] at f13 ⊢
  obtain ⟨g10, hg10⟩ : ∃ g, g = w.heap.size := ⟨_, rfl⟩
  rw [← hg10] at f10 ⊢
  have F10 := Lib.hid (row_below (row_below f10 q13) q15)
  have F13 := Lib.hid (row_below f13 q15)
  have F15 := Lib.hid f15
  have BB := Lib.hid ((q10.trans (q13.mono q10.size)).trans (q15.mono (q10.trans (q13.mono q10.size)).size))
  clear f10 f13 f15 q10 q13 q15 ha1 ha2 hw1 za1 za2 zw1 hg10 hg13 hg15 s0
  go_wp2_with fail
  refine (vlfirst_any _).mono ?_
  rintro e w2 ⟨rfl, rfl⟩
  obtain ⟨c1, c2⟩ := CO.out _ _ F13.out
  by_cases h1 : 20 < ni
  · have i1 : (20 : Int) < (ni : Int) := by omega
    go_wp2_with fail
    go_ret
    exact ⟨rfl, BB.out⟩
  have i1 : ¬ (20 : Int) < (ni : Int) := by omega
  by_cases h2 : 20 < no
  · have i2 : (20 : Int) < (no : Int) := by omega
    go_wp2_with fail
    go_ret
    exact ⟨rfl, BB.out⟩
  have i2 : ¬ (20 : Int) < (no : Int) := by omega
  by_cases h3 : 20 < nm
  · have i3 : (20 : Int) < (nm : Int) := by omega
    go_wp2_with fail
    go_ret
    exact ⟨rfl, BB.out⟩
  have i3 : ¬ (20 : Int) < (nm : Int) := by omega
  have S20 : Hid (ni ≤ 20 ∧ no ≤ 20 ∧ nm ≤ 20) := ⟨by omega, by omega, by omega⟩
  clear h1 h2 h3
  go_upto_region 6 with fail
  clear c1 c2 i1 i2 i3
  have c33 := CH.out _ _ F10.out
  have NR := Lib.hid hnear
  clear hnear
  go_cut [18] (fun v18 wx => ∃ far : Bool, v18 = .bool far ∧ (far = false → near) ∧ w1 = wx)
  case first =>
    by_cases h1 : ch < 0
    · go_wp2_with fail
      go_meet
      exact ⟨true, rfl, fun h => (by cases h), rfl⟩
    by_cases h2 : 1073741824 < ch
    · go_wp2_with fail
      go_meet
      exact ⟨true, rfl, fun h => (by cases h), rfl⟩
    by_cases h3 : mat < 0
    · go_wp2_with fail
      go_meet
      exact ⟨true, rfl, fun h => (by cases h), rfl⟩
    by_cases h4 : 1073741824 < mat
    · go_wp2_with fail
      go_meet
      exact ⟨true, rfl, fun h => (by cases h), rfl⟩
    go_wp2_with fail
    go_meet
    exact ⟨false, rfl, fun _ => by rw [NR.out]; omega, rfl⟩
  case rest =>
    obtain ⟨far, rfl, hfar, rfl⟩ := hcut
    have NF := Lib.hid hfar
    clear hfar NR c33
    go_wp2_with ((with_reducible show wpList _ _ _ _ _ _); (refine wpList_load_row rfl 31 (.tmp 13) rfl g13 rfl 31 ct.toArray (0, 0) _ F13.out Tryd.underlying31 rfl (by rw [LTS.out]; kernel_rfl) ?_; go_frame))
    refine (FEE.out w1 BB.out S20.out.1 S20.out.2.1 S20.out.2.2).mono ?_
    rintro e w2 ⟨u, rfl, hu, bb⟩
    have UF := Lib.hid hu
    have F10 := Lib.hid (row_below F10.out bb)
    have F13 := Lib.hid (row_below F13.out bb)
    have F15 := Lib.hid (row_below F15.out bb)
    have BB := Lib.hid (BB.out.trans (bb.mono BB.out.size))
    clear bb hu FEE
    go_wp2_with ((with_reducible show wpList _ _ _ _ _ _); (refine wpList_load_row rfl 31 (.tmp 13) rfl g13 rfl 31 ct.toArray (0, 0) _ F13.out Tryd.underlying31 rfl (by rw [LTS.out]; kernel_rfl) ?_; go_frame))
    refine (REF.out w2 BB.out S20.out.1 S20.out.2.1).mono ?_
    rintro e w3 ⟨rfl, bb⟩
    have UF := Lib.hid (UF.out.below bb)
    have F10 := Lib.hid (row_below F10.out bb)
    have F15 := Lib.hid (row_below F15.out bb)
    have BB := Lib.hid (BB.out.trans (bb.mono BB.out.size))
    clear bb REF F13
    go_upto_region 9 with ((with_reducible show wpList _ _ _ _ _ _); (refine wpList_store_row rfl 41 (.tmp 22) (.tmp 70) rfl w3.heap.size cf.toArray rfl rfl 41 _ (heap_alloc_new _ _) (by rw [LFS.out]; kernel_rfl) (by rw [LFS.out]; rfl) FON.out ?_; go_frame))
    obtain ⟨_, f2, f3, f4⟩ := fill_setup (Below.refl w3.heap.size w3) [.int .i64 0, .bool false, .int .i64 0, .bool false, .int .i64 0].toArray cf.toArray 41
    generalize hqw4 : World.setRow _ _ _ = w4
    have ew4 : World.setRow (w3.alloc (.cells [.int .i64 0, .bool false, .int .i64 0, .bool false, .int .i64 0].toArray 41)) w3.heap.size cf.toArray = w4 := hqw4
    rw [ew4] at f2 f3 f4
    obtain ⟨g22, hg22⟩ : ∃ g22, g22 = w3.heap.size := ⟨_, rfl⟩
    rw [← hg22] at f2 ⊢
    have F22 := Lib.hid f2
    have Ng22 : Hid (w3.heap.size ≤ g22) := by show _ ≤ _; rw [hg22]; exact Nat.le_refl _
    have UF := Lib.hid (UF.out.below f4)
    have F10 := Lib.hid (row_below F10.out f4)
    have F15 := Lib.hid (row_below F15.out f4)
    have BB := Lib.hid (BB.out.trans (f4.mono BB.out.size))
    clear f2 f3 f4 hqw4 ew4 hg22
    go_wp2_with ((with_reducible show wpList _ _ _ _ _ _); (refine wpList_load_row rfl 34 (.tmp 15) rfl g15 rfl 34 cru.toArray (0, 0) _ F15.out Tryd.underlying34 rfl (by rw [LRS.out]; kernel_rfl) ?_; go_frame))
    refine (RR.out w4).mono ?_
    rintro e wr ⟨rfl, bb⟩
    have UF := Lib.hid (UF.out.below bb)
    have F10 := Lib.hid (row_below F10.out bb)
    have F15 := Lib.hid (row_below F15.out bb)
    have F22 := Lib.hid (row_below F22.out bb)
    have BB := Lib.hid (BB.out.trans (bb.mono BB.out.size))
    have SF := Lib.hid (SF.out wr u BB.out UF.out)
    have VR : Hid (∀ W, Below wr.heap.size wr W → Calls Tryd.prog 16 #[.agg cru.toArray] W fun e w' => e = .returned (errV E kc) ∧ Below W.heap.size W w') := fun W hW => VR.out W (BB.out.trans (hW.mono BB.out.size))
    have IE : Hid (∀ W, Below wr.heap.size wr W → Calls Tryd.prog 15 #[errV E kc, .int .i64 kr] W fun e w' => e = .returned (.bool true) ∧ Below W.heap.size W w') := fun W hW => IE.out W (BB.out.trans (hW.mono BB.out.size))
    clear bb UF
    go_upto_if 72 with fail
    go_cut [23] (fun v23 wx => v23 = .int .i64 kr ∧ wr = wx)
    case first =>
      cases rb with
      | true =>
        go_wp2_with fail
        go_meet
        exact ⟨by rw [KT.out (by first | trivial | rfl)], rfl⟩
      | false =>
        go_wp2_with fail
        go_meet
        exact ⟨by rw [KF.out (by first | trivial | rfl)], rfl⟩
    case rest =>
      obtain ⟨rfl, rfl⟩ := hcut
      go_upto_region 12 with fail
      cases far with
      | true =>
        refine wp_region_held_drew (S := (fun w' => Below wr.heap.size wr w')) (by kernel_rfl) (Below.drew (Below.refl _ _)) (fun hHeld => ?_)
        generalize hwd : wr.drew = wd at  hHeld ⊢
        clear hwd
        refine held_take (i := 0) (v := (.bool true)) rfl (by kernel_rfl) (by kernel_rfl) (by kernel_rfl) (fun _ _ _ h => h) (Or.inl ⟨by rfl, fun w' _ => by kernel_rfl⟩) hHeld ?_
        go_frame
        refine held_take (i := 1) (v := (.bool true)) rfl (by kernel_rfl) (by kernel_rfl) (by kernel_rfl) (fun _ _ _ h => h) (Or.inl ⟨by rfl, fun w' _ => by kernel_rfl⟩) hHeld ?_
        go_frame
        refine held_take (i := 2) (v := (.int .i64 height)) rfl (by kernel_rfl) (by kernel_rfl) (by kernel_rfl) (fun _ _ _ h => h) (Or.inl ⟨by rfl, fun w' _ => by kernel_rfl⟩) hHeld ?_
        go_frame
        refine held_take (i := 3) (v := (.int .i64 halving)) rfl (by kernel_rfl) (by kernel_rfl) (by kernel_rfl) (fun _ _ _ h => h) (Or.inl ⟨by rfl, fun w' _ => by kernel_rfl⟩) hHeld ?_
        go_frame
        refine held_take (i := 5) (v := (.int .i64 height)) rfl (by kernel_rfl) (by kernel_rfl) (by kernel_rfl) (fun _ _ _ h => h) (Or.inl ⟨by rfl, fun w' _ => by kernel_rfl⟩) hHeld ?_
        go_frame
        refine held_take (i := 6) (v := (.int .i64 halving)) rfl (by kernel_rfl) (by kernel_rfl) (by kernel_rfl) (fun _ _ _ h => h) (Or.inl ⟨by rfl, fun w' _ => by kernel_rfl⟩) hHeld ?_
        go_frame
        refine wpAnyH_ready (rs := [4]) (by kernel_rfl) (by simp) (held_cons rfl (fun K hK => ?_) AllReadyH.nil)
        rw [if_pos (by rfl)]
        go_simp
        refine (RW1.out _).mono ?_
        rintro e v1 ⟨rfl, bb⟩
        have hv1 := hHeld.trans (bb.mono hHeld.size)
        clear bb hHeld
        go_wp2_with fail
        refine hK.out _ _ hv1 (fun hHeld => ?_)
        clear hK K hv1
        refine wpAnyH_ready (rs := [7]) (by kernel_rfl) (by simp) (held_cons rfl (fun K hK => ?_) AllReadyH.nil)
        rw [if_pos (by rfl)]
        go_simp
        refine (RW2.out _).mono ?_
        rintro e v2 ⟨rfl, bb⟩
        have hv2 := hHeld.trans (bb.mono hHeld.size)
        clear bb hHeld
        go_wp2_with fail
        refine hK.out _ _ hv2 (fun hHeld => ?_)
        clear hK K hv2
        refine held_take (i := 8) (v := (.bool true)) rfl (by kernel_rfl) (by kernel_rfl) (by kernel_rfl) (fun _ _ _ h => h) (Or.inl ⟨by rfl, fun w' _ => by go_simp⟩) hHeld ?_
        go_frame
        refine held_take (i := 9) (v := (.bool true)) rfl (by kernel_rfl) (by kernel_rfl) (by kernel_rfl) (fun _ _ _ h => h) (Or.inl ⟨by rfl, fun w' _ => by go_simp⟩) hHeld ?_
        go_frame
        refine held_take (i := 10) (v := (.bool true)) rfl (by kernel_rfl) (by kernel_rfl) (by kernel_rfl) (fun _ _ _ h => h) (Or.inl ⟨by rfl, fun w' _ => by kernel_rfl⟩) hHeld ?_
        go_frame
        refine held_take (i := 11) (v := (.bool true)) rfl (by kernel_rfl) (by kernel_rfl) (by kernel_rfl) (fun _ _ _ h => h) (Or.inl ⟨by rfl, fun w' _ => by kernel_rfl⟩) hHeld ?_
        go_frame
        refine held_take (i := 12) (v := (.bool true)) rfl (by kernel_rfl) (by kernel_rfl) (by kernel_rfl) (fun _ _ _ h => h) (Or.inl ⟨by rfl, fun w' _ => by kernel_rfl⟩) hHeld ?_
        go_frame
        refine held_take (i := 13) (v := undef) rfl (by kernel_rfl) (by kernel_rfl) (by kernel_rfl) (fun _ _ _ h => h) (Or.inr ⟨by rfl, by rfl⟩) hHeld ?_
        go_frame
        refine held_take (i := 14) (v := undef) rfl (by kernel_rfl) (by kernel_rfl) (by kernel_rfl) (fun _ _ _ h => h) (Or.inr ⟨by rfl, by rfl⟩) hHeld ?_
        go_frame
        refine held_take (i := 15) (v := undef) rfl (by kernel_rfl) (by kernel_rfl) (by kernel_rfl) (fun _ _ _ h => h) (Or.inr ⟨by rfl, by rfl⟩) hHeld ?_
        go_frame
        refine held_take (i := 16) (v := undef) rfl (by kernel_rfl) (by kernel_rfl) (by kernel_rfl) (fun _ _ _ h => h) (Or.inr ⟨by rfl, by rfl⟩) hHeld ?_
        go_frame
        refine held_take (i := 17) (v := undef) rfl (by kernel_rfl) (by kernel_rfl) (by kernel_rfl) (fun _ _ _ h => h) (Or.inr ⟨by rfl, by rfl⟩) hHeld ?_
        go_frame
        refine held_take (i := 18) (v := undef) rfl (by kernel_rfl) (by kernel_rfl) (by kernel_rfl) (fun _ _ _ h => h) (Or.inr ⟨by rfl, by rfl⟩) hHeld ?_
        go_frame
        refine held_take (i := 19) (v := undef) rfl (by kernel_rfl) (by kernel_rfl) (by kernel_rfl) (fun _ _ _ h => h) (Or.inr ⟨by rfl, by rfl⟩) hHeld ?_
        go_frame
        refine held_take (i := 20) (v := undef) rfl (by kernel_rfl) (by kernel_rfl) (by kernel_rfl) (fun _ _ _ h => h) (Or.inr ⟨by rfl, by rfl⟩) hHeld ?_
        go_frame
        refine held_take (i := 21) (v := undef) rfl (by kernel_rfl) (by kernel_rfl) (by kernel_rfl) (fun _ _ _ h => h) (Or.inr ⟨by rfl, by rfl⟩) hHeld ?_
        go_frame
        refine held_take (i := 22) (v := (.bool true)) rfl (by kernel_rfl) (by kernel_rfl) (by kernel_rfl) (fun _ _ _ h => h) (Or.inl ⟨by rfl, fun w' _ => by go_simp⟩) hHeld ?_
        go_frame
        refine held_take (i := 23) (v := (.bool true)) rfl (by kernel_rfl) (by kernel_rfl) (by kernel_rfl) (fun _ _ _ h => h) (Or.inl ⟨by rfl, fun w' _ => by go_simp⟩) hHeld ?_
        go_frame
        refine held_take (i := 24) (v := (.bool true)) rfl (by kernel_rfl) (by kernel_rfl) (by kernel_rfl) (fun _ _ _ h => h) (Or.inl ⟨by rfl, fun w' _ => by kernel_rfl⟩) hHeld ?_
        go_frame
        refine held_take (i := 25) (v := (.int .u64 (fv : Int))) rfl (by kernel_rfl) (by kernel_rfl) (by kernel_rfl) (fun _ _ _ h => h) (Or.inl ⟨by rfl, fun w' _ => by kernel_rfl⟩) hHeld ?_
        go_frame
        refine held_take (i := 26) (v := (.int .u64 (fv : Int))) rfl (by kernel_rfl) (by kernel_rfl) (by kernel_rfl) (fun _ _ _ h => h) (Or.inl ⟨by rfl, fun w' _ => by kernel_rfl⟩) hHeld ?_
        go_frame
        refine held_take (i := 27) (v := (.bool true)) rfl (by kernel_rfl) (by kernel_rfl) (by kernel_rfl) (fun _ _ _ h => h) (Or.inl ⟨by rfl, fun w' _ => by go_simp⟩) hHeld ?_
        go_frame
        refine held_take (i := 28) (v := (.bool true)) rfl (by kernel_rfl) (by kernel_rfl) (by kernel_rfl) (fun _ _ _ h => h) (Or.inl ⟨by rfl, fun w' _ => by go_simp⟩) hHeld ?_
        go_frame
        refine held_take (i := 29) (v := (.bool true)) rfl (by kernel_rfl) (by kernel_rfl) (by kernel_rfl) (fun _ _ _ h => h) (Or.inl ⟨by rfl, fun w' _ => by kernel_rfl⟩) hHeld ?_
        go_frame
        refine held_take (i := 30) (v := u) rfl (by kernel_rfl) (by kernel_rfl) (by kernel_rfl) (fun _ _ _ h => h) (Or.inl ⟨by rfl, fun w' _ => by kernel_rfl⟩) hHeld ?_
        go_frame
        refine held_take (i := 31) (v := (.agg cf.toArray)) rfl (by kernel_rfl) (by kernel_rfl) (by kernel_rfl) (fun _ _ _ h => h) (yieldsIf_load_row (by rfl) 41 (.tmp 22) rfl g22 rfl 41 cf.toArray (0, 0) _ (fun w' hw' => row_below F22.out hw') Tryd.underlying41 rfl (by rw [LFS.out]; kernel_rfl)) hHeld ?_
        go_frame
        refine wpAnyH_ready (rs := [32]) (by kernel_rfl) (by simp) (held_cons rfl (fun K hK => ?_) AllReadyH.nil)
        rw [if_pos (by rfl)]
        go_simp
        refine (SF.out _ hHeld).mono ?_
        rintro e v3 ⟨rfl, bb⟩
        have hv3 := hHeld.trans (bb.mono hHeld.size)
        clear bb hHeld
        go_wp2_with fail
        refine hK.out _ _ hv3 (fun hHeld => ?_)
        clear hK K hv3
        refine held_take (i := 33) (v := (.bool true)) rfl (by kernel_rfl) (by kernel_rfl) (by kernel_rfl) (fun _ _ _ h => h) (Or.inl ⟨by rfl, fun w' _ => by go_simp⟩) hHeld ?_
        go_frame
        refine held_take (i := 34) (v := (.bool true)) rfl (by kernel_rfl) (by kernel_rfl) (by kernel_rfl) (fun _ _ _ h => h) (Or.inl ⟨by rfl, fun w' _ => by kernel_rfl⟩) hHeld ?_
        go_frame
        refine held_take (i := 35) (v := (.agg cru.toArray)) rfl (by kernel_rfl) (by kernel_rfl) (by kernel_rfl) (fun _ _ _ h => h) (yieldsIf_load_row (by rfl) 34 (.tmp 15) rfl g15 rfl 34 cru.toArray (0, 0) _ (fun w' hw' => row_below F15.out hw') Tryd.underlying34 rfl (by rw [LRS.out]; kernel_rfl)) hHeld ?_
        go_frame
        refine held_take (i := 37) (v := (.int .i64 kr)) rfl (by kernel_rfl) (by kernel_rfl) (by kernel_rfl) (fun _ _ _ h => h) (Or.inl ⟨by rfl, fun w' _ => by kernel_rfl⟩) hHeld ?_
        go_frame
        refine wpAnyH_ready (rs := [36]) (by kernel_rfl) (by simp) (held_cons rfl (fun K hK => ?_) AllReadyH.nil)
        rw [if_pos (by rfl)]
        go_simp
        refine (VR.out _ hHeld).mono ?_
        rintro e v4 ⟨rfl, bb⟩
        have hv4 := hHeld.trans (bb.mono hHeld.size)
        clear bb hHeld
        go_wp2_with fail
        refine hK.out _ _ hv4 (fun hHeld => ?_)
        clear hK K hv4
        refine wpAnyH_ready (rs := [38]) (by kernel_rfl) (by simp) (held_cons rfl (fun K hK => ?_) AllReadyH.nil)
        rw [if_pos (by rfl)]
        go_simp
        refine (IE.out _ hHeld).mono ?_
        rintro e v5 ⟨rfl, bb⟩
        have hv5 := hHeld.trans (bb.mono hHeld.size)
        clear bb hHeld
        go_wp2_with fail
        refine hK.out _ _ hv5 (fun hHeld => ?_)
        clear hK K hv5
        refine held_take (i := 39) (v := (.bool true)) rfl (by kernel_rfl) (by kernel_rfl) (by kernel_rfl) (fun _ _ _ h => h) (Or.inl ⟨by rfl, fun w' _ => by go_simp⟩) hHeld ?_
        go_frame
        refine held_take (i := 40) (v := (.bool true)) rfl (by kernel_rfl) (by kernel_rfl) (by kernel_rfl) (fun _ _ _ h => h) (Or.inl ⟨by rfl, fun w' _ => by kernel_rfl⟩) hHeld ?_
        go_frame
        refine wpAnyH_done (by kernel_rfl) ?_ _
        have BZ := Lib.hid (BB.out.trans (hHeld.mono BB.out.size))
        clear hHeld
        go_wp2_with fail
        go_ret
        exact ⟨rfl, BZ.out⟩
      | false =>
        have RP1 := Lib.hid (RP1.out (NF.out rfl))
        have RP2 := Lib.hid (RP2.out (NF.out rfl))
        refine wp_region_held_drew (S := (fun w' => Below wr.heap.size wr w')) (by kernel_rfl) (Below.drew (Below.refl _ _)) (fun hHeld => ?_)
        generalize hwd : wr.drew = wd at  hHeld ⊢
        clear hwd
        refine held_take (i := 0) (v := (.bool true)) rfl (by kernel_rfl) (by kernel_rfl) (by kernel_rfl) (fun _ _ _ h => h) (Or.inl ⟨by rfl, fun w' _ => by kernel_rfl⟩) hHeld ?_
        go_frame
        refine held_take (i := 1) (v := (.bool true)) rfl (by kernel_rfl) (by kernel_rfl) (by kernel_rfl) (fun _ _ _ h => h) (Or.inl ⟨by rfl, fun w' _ => by kernel_rfl⟩) hHeld ?_
        go_frame
        refine held_take (i := 2) (v := (.int .i64 height)) rfl (by kernel_rfl) (by kernel_rfl) (by kernel_rfl) (fun _ _ _ h => h) (Or.inl ⟨by rfl, fun w' _ => by kernel_rfl⟩) hHeld ?_
        go_frame
        refine held_take (i := 3) (v := (.int .i64 halving)) rfl (by kernel_rfl) (by kernel_rfl) (by kernel_rfl) (fun _ _ _ h => h) (Or.inl ⟨by rfl, fun w' _ => by kernel_rfl⟩) hHeld ?_
        go_frame
        refine held_take (i := 5) (v := (.int .i64 height)) rfl (by kernel_rfl) (by kernel_rfl) (by kernel_rfl) (fun _ _ _ h => h) (Or.inl ⟨by rfl, fun w' _ => by kernel_rfl⟩) hHeld ?_
        go_frame
        refine held_take (i := 6) (v := (.int .i64 halving)) rfl (by kernel_rfl) (by kernel_rfl) (by kernel_rfl) (fun _ _ _ h => h) (Or.inl ⟨by rfl, fun w' _ => by kernel_rfl⟩) hHeld ?_
        go_frame
        refine wpAnyH_ready (rs := [4]) (by kernel_rfl) (by simp) (held_cons rfl (fun K hK => ?_) AllReadyH.nil)
        rw [if_pos (by rfl)]
        go_simp
        refine (RW1.out _).mono ?_
        rintro e v1 ⟨rfl, bb⟩
        have hv1 := hHeld.trans (bb.mono hHeld.size)
        clear bb hHeld
        go_wp2_with fail
        refine hK.out _ _ hv1 (fun hHeld => ?_)
        clear hK K hv1
        refine wpAnyH_ready (rs := [7]) (by kernel_rfl) (by simp) (held_cons rfl (fun K hK => ?_) AllReadyH.nil)
        rw [if_pos (by rfl)]
        go_simp
        refine (RW2.out _).mono ?_
        rintro e v2 ⟨rfl, bb⟩
        have hv2 := hHeld.trans (bb.mono hHeld.size)
        clear bb hHeld
        go_wp2_with fail
        refine hK.out _ _ hv2 (fun hHeld => ?_)
        clear hK K hv2
        refine held_take (i := 8) (v := (.bool true)) rfl (by kernel_rfl) (by kernel_rfl) (by kernel_rfl) (fun _ _ _ h => h) (Or.inl ⟨by rfl, fun w' _ => by go_simp⟩) hHeld ?_
        go_frame
        refine held_take (i := 9) (v := (.bool true)) rfl (by kernel_rfl) (by kernel_rfl) (by kernel_rfl) (fun _ _ _ h => h) (Or.inl ⟨by rfl, fun w' _ => by go_simp⟩) hHeld ?_
        go_frame
        refine held_take (i := 10) (v := (.bool true)) rfl (by kernel_rfl) (by kernel_rfl) (by kernel_rfl) (fun _ _ _ h => h) (Or.inl ⟨by rfl, fun w' _ => by kernel_rfl⟩) hHeld ?_
        go_frame
        refine held_take (i := 11) (v := (.bool false)) rfl (by kernel_rfl) (by kernel_rfl) (by kernel_rfl) (fun _ _ _ h => h) (Or.inl ⟨by rfl, fun w' _ => by kernel_rfl⟩) hHeld ?_
        go_frame
        refine held_take (i := 12) (v := (.bool false)) rfl (by kernel_rfl) (by kernel_rfl) (by kernel_rfl) (fun _ _ _ h => h) (Or.inl ⟨by rfl, fun w' _ => by kernel_rfl⟩) hHeld ?_
        go_frame
        refine held_take (i := 13) (v := (.agg cmn.toArray)) rfl (by kernel_rfl) (by kernel_rfl) (by kernel_rfl) (fun _ _ _ h => h) (yieldsIf_load_row (by rfl) 26 (.tmp 10) rfl g10 rfl 26 cmn.toArray (0, 0) _ (fun w' hw' => row_below F10.out hw') Tryd.underlying26 rfl (by rw [LMS.out]; kernel_rfl)) hHeld ?_
        go_frame
        refine held_take (i := 14) (v := (.int .i64 hat)) rfl (by kernel_rfl) (by kernel_rfl) (by kernel_rfl) (fun _ _ _ h => h) (Or.inl ⟨by rfl, fun w' _ => by kernel_rfl⟩) hHeld ?_
        go_frame
        refine held_take (i := 15) (v := (.int .i64 mat)) rfl (by kernel_rfl) (by kernel_rfl) (by kernel_rfl) (fun _ _ _ h => h) (Or.inl ⟨by rfl, fun w' _ => by kernel_rfl⟩) hHeld ?_
        go_frame
        refine held_take (i := 17) (v := (.agg cmn.toArray)) rfl (by kernel_rfl) (by kernel_rfl) (by kernel_rfl) (fun _ _ _ h => h) (yieldsIf_load_row (by rfl) 26 (.tmp 10) rfl g10 rfl 26 cmn.toArray (0, 0) _ (fun w' hw' => row_below F10.out hw') Tryd.underlying26 rfl (by rw [LMS.out]; kernel_rfl)) hHeld ?_
        go_frame
        refine held_take (i := 18) (v := (.int .i64 hat)) rfl (by kernel_rfl) (by kernel_rfl) (by kernel_rfl) (fun _ _ _ h => h) (Or.inl ⟨by rfl, fun w' _ => by kernel_rfl⟩) hHeld ?_
        go_frame
        refine held_take (i := 19) (v := (.int .i64 mat)) rfl (by kernel_rfl) (by kernel_rfl) (by kernel_rfl) (fun _ _ _ h => h) (Or.inl ⟨by rfl, fun w' _ => by kernel_rfl⟩) hHeld ?_
        go_frame
        refine wpAnyH_ready (rs := [16]) (by kernel_rfl) (by simp) (held_cons rfl (fun K hK => ?_) AllReadyH.nil)
        rw [if_pos (by rfl)]
        go_simp
        refine (RP1.out _).mono ?_
        rintro e v3 ⟨rfl, bb⟩
        have hv3 := hHeld.trans (bb.mono hHeld.size)
        clear bb hHeld
        go_wp2_with fail
        refine hK.out _ _ hv3 (fun hHeld => ?_)
        clear hK K hv3
        refine wpAnyH_ready (rs := [20]) (by kernel_rfl) (by simp) (held_cons rfl (fun K hK => ?_) AllReadyH.nil)
        rw [if_pos (by rfl)]
        go_simp
        refine (RP2.out _).mono ?_
        rintro e v4 ⟨rfl, bb⟩
        have hv4 := hHeld.trans (bb.mono hHeld.size)
        clear bb hHeld
        go_wp2_with fail
        refine hK.out _ _ hv4 (fun hHeld => ?_)
        clear hK K hv4
        refine held_take (i := 21) (v := (.bool true)) rfl (by kernel_rfl) (by kernel_rfl) (by kernel_rfl) (fun _ _ _ h => h) (Or.inl ⟨by rfl, fun w' _ => by go_simp⟩) hHeld ?_
        go_frame
        refine held_take (i := 22) (v := (.bool true)) rfl (by kernel_rfl) (by kernel_rfl) (by kernel_rfl) (fun _ _ _ h => h) (Or.inl ⟨by rfl, fun w' _ => by go_simp⟩) hHeld ?_
        go_frame
        refine held_take (i := 23) (v := (.bool true)) rfl (by kernel_rfl) (by kernel_rfl) (by kernel_rfl) (fun _ _ _ h => h) (Or.inl ⟨by rfl, fun w' _ => by go_simp⟩) hHeld ?_
        go_frame
        refine held_take (i := 24) (v := (.bool true)) rfl (by kernel_rfl) (by kernel_rfl) (by kernel_rfl) (fun _ _ _ h => h) (Or.inl ⟨by rfl, fun w' _ => by kernel_rfl⟩) hHeld ?_
        go_frame
        refine held_take (i := 25) (v := (.int .u64 (fv : Int))) rfl (by kernel_rfl) (by kernel_rfl) (by kernel_rfl) (fun _ _ _ h => h) (Or.inl ⟨by rfl, fun w' _ => by kernel_rfl⟩) hHeld ?_
        go_frame
        refine held_take (i := 26) (v := (.int .u64 (fv : Int))) rfl (by kernel_rfl) (by kernel_rfl) (by kernel_rfl) (fun _ _ _ h => h) (Or.inl ⟨by rfl, fun w' _ => by kernel_rfl⟩) hHeld ?_
        go_frame
        refine held_take (i := 27) (v := (.bool true)) rfl (by kernel_rfl) (by kernel_rfl) (by kernel_rfl) (fun _ _ _ h => h) (Or.inl ⟨by rfl, fun w' _ => by go_simp⟩) hHeld ?_
        go_frame
        refine held_take (i := 28) (v := (.bool true)) rfl (by kernel_rfl) (by kernel_rfl) (by kernel_rfl) (fun _ _ _ h => h) (Or.inl ⟨by rfl, fun w' _ => by go_simp⟩) hHeld ?_
        go_frame
        refine held_take (i := 29) (v := (.bool true)) rfl (by kernel_rfl) (by kernel_rfl) (by kernel_rfl) (fun _ _ _ h => h) (Or.inl ⟨by rfl, fun w' _ => by kernel_rfl⟩) hHeld ?_
        go_frame
        refine held_take (i := 30) (v := u) rfl (by kernel_rfl) (by kernel_rfl) (by kernel_rfl) (fun _ _ _ h => h) (Or.inl ⟨by rfl, fun w' _ => by kernel_rfl⟩) hHeld ?_
        go_frame
        refine held_take (i := 31) (v := (.agg cf.toArray)) rfl (by kernel_rfl) (by kernel_rfl) (by kernel_rfl) (fun _ _ _ h => h) (yieldsIf_load_row (by rfl) 41 (.tmp 22) rfl g22 rfl 41 cf.toArray (0, 0) _ (fun w' hw' => row_below F22.out hw') Tryd.underlying41 rfl (by rw [LFS.out]; kernel_rfl)) hHeld ?_
        go_frame
        refine wpAnyH_ready (rs := [32]) (by kernel_rfl) (by simp) (held_cons rfl (fun K hK => ?_) AllReadyH.nil)
        rw [if_pos (by rfl)]
        go_simp
        refine (SF.out _ hHeld).mono ?_
        rintro e v5 ⟨rfl, bb⟩
        have hv5 := hHeld.trans (bb.mono hHeld.size)
        clear bb hHeld
        go_wp2_with fail
        refine hK.out _ _ hv5 (fun hHeld => ?_)
        clear hK K hv5
        refine held_take (i := 33) (v := (.bool true)) rfl (by kernel_rfl) (by kernel_rfl) (by kernel_rfl) (fun _ _ _ h => h) (Or.inl ⟨by rfl, fun w' _ => by go_simp⟩) hHeld ?_
        go_frame
        refine held_take (i := 34) (v := (.bool true)) rfl (by kernel_rfl) (by kernel_rfl) (by kernel_rfl) (fun _ _ _ h => h) (Or.inl ⟨by rfl, fun w' _ => by kernel_rfl⟩) hHeld ?_
        go_frame
        refine held_take (i := 35) (v := (.agg cru.toArray)) rfl (by kernel_rfl) (by kernel_rfl) (by kernel_rfl) (fun _ _ _ h => h) (yieldsIf_load_row (by rfl) 34 (.tmp 15) rfl g15 rfl 34 cru.toArray (0, 0) _ (fun w' hw' => row_below F15.out hw') Tryd.underlying34 rfl (by rw [LRS.out]; kernel_rfl)) hHeld ?_
        go_frame
        refine held_take (i := 37) (v := (.int .i64 kr)) rfl (by kernel_rfl) (by kernel_rfl) (by kernel_rfl) (fun _ _ _ h => h) (Or.inl ⟨by rfl, fun w' _ => by kernel_rfl⟩) hHeld ?_
        go_frame
        refine wpAnyH_ready (rs := [36]) (by kernel_rfl) (by simp) (held_cons rfl (fun K hK => ?_) AllReadyH.nil)
        rw [if_pos (by rfl)]
        go_simp
        refine (VR.out _ hHeld).mono ?_
        rintro e v6 ⟨rfl, bb⟩
        have hv6 := hHeld.trans (bb.mono hHeld.size)
        clear bb hHeld
        go_wp2_with fail
        refine hK.out _ _ hv6 (fun hHeld => ?_)
        clear hK K hv6
        refine wpAnyH_ready (rs := [38]) (by kernel_rfl) (by simp) (held_cons rfl (fun K hK => ?_) AllReadyH.nil)
        rw [if_pos (by rfl)]
        go_simp
        refine (IE.out _ hHeld).mono ?_
        rintro e v7 ⟨rfl, bb⟩
        have hv7 := hHeld.trans (bb.mono hHeld.size)
        clear bb hHeld
        go_wp2_with fail
        refine hK.out _ _ hv7 (fun hHeld => ?_)
        clear hK K hv7
        refine held_take (i := 39) (v := (.bool true)) rfl (by kernel_rfl) (by kernel_rfl) (by kernel_rfl) (fun _ _ _ h => h) (Or.inl ⟨by rfl, fun w' _ => by go_simp⟩) hHeld ?_
        go_frame
        refine held_take (i := 40) (v := (.bool true)) rfl (by kernel_rfl) (by kernel_rfl) (by kernel_rfl) (fun _ _ _ h => h) (Or.inl ⟨by rfl, fun w' _ => by kernel_rfl⟩) hHeld ?_
        go_frame
        refine wpAnyH_done (by kernel_rfl) ?_ _
        have BZ := Lib.hid (BB.out.trans (hHeld.mono BB.out.size))
        clear hHeld
        go_wp2_with fail
        go_ret
        exact ⟨rfl, BZ.out⟩
end Go.Proofs.YtlpdgjneoahdeaaDoor.Sha
