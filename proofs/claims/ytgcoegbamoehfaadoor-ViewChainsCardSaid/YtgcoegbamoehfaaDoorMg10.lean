/-
  Texts of this proof joined into one file: VwIns, BytesEq, RefSmall. What each holds, and under which conditions, its own first sentence tells.
-/
import Derived.Lib.BufferRead
import Derived.Test.YtgcoegbamoehfaaDoorMg09
import Derived.Test.YtgcoegbamoehfaaDoorMg01
import Derived.Test.YtgcoegbamoehfaaDoorMg06
import Derived.Test.YtgcoegbamoehfaaDoorMg03
/-
  Package view: are a transaction's inputs all there; does the set have a coin where one of its outputs would be. Nothing that was there turns. Conditions: the view lies where the pointer says; the transaction as the model has it, at most a thousand inputs and outputs.
-/
namespace Go.Proofs.YtgcoegbamoehfaaDoor.Sha
open Go Go.RowKit
def HiInv (n : Nat) (xs : List TIn) (ok : TIn → Bool) (w : World) (vi : Value) (wr : World) : Prop :=
  ∃ k : Nat, k ≤ n ∧ vi = .int .i64 (k : Int) ∧ (∀ i x, i < k → xs[i]? = some x → ok x = true) ∧ Below w.heap.size w wr
theorem all_of {xs : List TIn} {ok : TIn → Bool} (h : ∀ i x, i < xs.length → xs[i]? = some x → ok x = true) : xs.all ok = true := by
  rw [List.all_eq_true]
  intro x hx
  obtain ⟨i, hi⟩ := List.getElem?_of_mem hx
  exact h i x (List.getElem?_eq_some_iff.1 hi).1 hi
theorem all_not {xs : List TIn} {ok : TIn → Bool} {k : Nat} {x : TIn} (h : xs[k]? = some x) (hx : ok x = false) : xs.all ok = false := by
  rw [List.all_eq_false]
  exact ⟨x, List.mem_of_getElem? h, by rw [hx]; decide⟩
set_option maxHeartbeats 4000000 in
set_option maxRecDepth 100000 in
theorem vwins_any (w : World) (b a mb sb : Nat) (m : Option Nat) (l : List TSp) (made : Made) (gone : Gone) (t : TTx) (iv ov : Value) (hv : ViewAt w b a m mb sb l made gone) (ht : TxAt w (.agg (txL t iv ov).toArray) t) (hl : t.ins.length ≤ 1000) :
    Calls Tryd.prog 19 #[.pointer (some ⟨b, 0, none⟩), .agg (txL t iv ov).toArray] w fun e w' => e = .returned (.bool (t.ins.all fun x => (vGet l made gone (ptIn x)).isSome)) ∧ Below w.heap.size w w' := by
  have HV := Lib.hid hv
  obtain ⟨hi, ho⟩ := vtx_parts ht
  have TI : Hid (∀ W, Below w.heap.size w W → InsAt W iv t.ins) := fun W hW => hi.below hW
  have TONE : Hid ((txL t iv ov).toArray.all (·.oneCell') = true) := tx_one hi ho
  have LT : Hid ((txL t iv ov).toArray.size = 4) := rfl
  have CO : Hid (∀ (W : World) (g : Nat), W.heap[g]? = some (.cells (txL t iv ov).toArray 49 (0, 0)) → W.cell? ⟨g, 1, none⟩ = some iv) := fun W g hg => (tx_cells hg).2.1
  obtain ⟨spi, capi, hsv⟩ : ∃ sp cap, iv = .slice sp t.ins.length cap := by
    obtain ⟨sp, cap, e, _⟩ := hi
    exact ⟨sp, cap, e⟩
  have OKI : Hid (∀ k x, t.ins[k]? = some x → InOk x) := fun k x hx => by
    obtain ⟨sp, cap, _, _, h3⟩ := hi
    obtain ⟨b, o, _, h5⟩ := h3 (by have := (List.getElem?_eq_some_iff.1 hx).1; omega)
    exact (h5 k x hx).1
  obtain ⟨ok, hok⟩ : ∃ ok : TIn → Bool, ok = fun x => (vGet l made gone (ptIn x)).isSome := ⟨_, rfl⟩
  have GA : Hid (∀ x W, InOk x → Below w.heap.size w W → Calls Tryd.prog 10 #[.pointer (some ⟨b, 0, none⟩), .agg (ptC (ptIn x)).toArray] W fun e w' => e = .returned (.tuple #[.agg (mnL ((vGet l made gone (ptIn x)).getD mnZ)).toArray, .bool (ok x)]) ∧ Below W.heap.size W w') := fun x W hx hW => by
    rw [hok]
    exact vwget_any W b a mb sb m l made gone (ptIn x) (hv.below hW) ⟨hx.1, hx.2.1⟩
  have GK : Hid (∀ x, MnOk ((vGet l made gone (ptIn x)).getD mnZ)) := fun x => hv.ok _
  rw [← hok]
  obtain ⟨xs, hxs⟩ : ∃ xs, xs = t.ins := ⟨_, rfl⟩
  rw [← hxs] at TI OKI hsv hl ⊢
  obtain ⟨n, hn1⟩ : ∃ n, n = xs.length := ⟨_, rfl⟩
  rw [← hn1] at hsv hl
  have NX := Lib.hid hn1
  have NL := Lib.hid hl
  obtain ⟨ct, hct⟩ : ∃ ct, ct = txL t iv ov := ⟨_, rfl⟩
  rw [← hct] at TONE LT CO ⊢
  rw [hsv] at TI CO
  clear hv ht hi ho hok hxs hn1 hl hct hsv
  go_enter Tryd.func19, Tryd.ntmps19
  go_upto_region 1 with fail
  have f3 := heap_alloc_new w (.cells ct.toArray 49 (0, 0))
  have b1 := (Below.refl w.heap.size w).alloc (Nat.le_refl _) (.cells ct.toArray 49 (0, 0))
  generalize hw1 : World.alloc _ _ = w1
  have e1 : w.alloc (.cells ct.toArray 49 (0, 0)) = w1 := hw1
  rw [e1] at f3 b1
  obtain ⟨g3, hg3⟩ : ∃ g3, g3 = w.heap.size := ⟨_, rfl⟩
  rw [← hg3] at f3 ⊢
  have F3 := Lib.hid f3
  have B1 := Lib.hid b1
  have c1 := CO.out _ _ F3.out
  clear f3 b1 hw1 e1 hg3
  go_wp2_with fail
  clear c1
  go_loopw [12] (fun vi wr => HiInv n xs ok w vi wr) (fun i _ => n - (intOf i).toNat)
  case atStart => exact ⟨0, Nat.zero_le _, rfl, fun i x hi => absurd hi (Nat.not_lt_zero _), B1.out⟩
  case round =>
    clear B1
    obtain ⟨k, hk, rfl, hall, hbw⟩ := hrel
    have AL := Lib.hid hall
    have BW := Lib.hid hbw
    clear hall hbw
    by_cases hlt : k < n
    · obtain ⟨x, hx⟩ : ∃ x, xs[k]? = some x := ⟨_, List.getElem?_eq_getElem (by rw [← NX.out]; exact hlt)⟩
      obtain ⟨spi', capi', e0, _, hg0⟩ := TI.out wr BW.out
      rw [← NX.out] at e0 hg0
      obtain ⟨rfl, rfl⟩ : spi = spi' ∧ capi = capi' := by cases e0; exact ⟨rfl, rfl⟩
      obtain ⟨bi, oi, rfl, hg⟩ := hg0 (by omega)
      obtain ⟨ox, kv, hkv, hr⟩ := hg k x hx
      have RX := Lib.hid hr
      have XK := Lib.hid hx
      have LX : Hid ((inL x kv).length = 35) := inL_length x kv ox.1
      have LXS : Hid ((inL x kv).toArray.size = 35) := by show _ = _; rw [List.size_toArray]; exact LX.out
      have XA : Hid ((inL x kv).toArray.all (·.oneCell') = true) := in_one x kv (by obtain ⟨_, sp, cap, rfl⟩ := hkv; rfl)
      have KP : Hid (∀ (W : World) (g : Nat), W.heap[g]? = some (.cells (inL x kv).toArray 43 (0, 0)) → W.rangeAt g 0 (ptC (ptIn x))) := fun W g q => in_pt (range_of_box q)
      have LP : Hid ((ptC (ptIn x)).length = 33) := ptC_length ⟨ox.1, ox.2.1⟩
      have GX : Hid (∀ W, Below w.heap.size w W → Calls Tryd.prog 10 #[.pointer (some ⟨b, 0, none⟩), .agg (ptC (ptIn x)).toArray] W fun e w' => e = .returned (.tuple #[.agg (mnL ((vGet l made gone (ptIn x)).getD mnZ)).toArray, .bool (ok x)]) ∧ Below W.heap.size W w') := fun W hW => GA.out x W ox hW
      have MK := GK.out x
      obtain ⟨c, hc⟩ : ∃ c, c = (vGet l made gone (ptIn x)).getD mnZ := ⟨_, rfl⟩
      rw [← hc] at GX MK
      have ZM : Hid ((mnL c).toArray.size = 35) := mnL_size MK
      have MA : Hid ((mnL c).toArray.all (·.oneCell') = true) := mnL_all _
      obtain ⟨cm, hcm⟩ : ∃ cm, cm = mnL c := ⟨_, rfl⟩
      rw [← hcm] at GX ZM MA
      obtain ⟨q, hq⟩ : ∃ q, q = ok x := ⟨_, rfl⟩
      have OQ : Hid (ok x = q) := hq.symm
      rw [← hq] at GX
      have p0 : 0 ≤ (k : Int) := by omega
      have q0 : (k : Int) < (n : Int) := by omega
      obtain ⟨cx, hcx⟩ : ∃ cx, cx = inL x kv := ⟨_, rfl⟩
      rw [← hcx] at RX LX LXS XA KP
      obtain ⟨cp, hcp⟩ : ∃ cp, cp = ptC (ptIn x) := ⟨_, rfl⟩
      rw [← hcp] at KP LP GX
      clear hx hg hg0 hkv hr ox e0 hcx hcp hc hcm hq MK
      go_upto_region 4 with ((with_reducible show wpList _ _ _ _ _ _); first | (refine wpList_load_mid rfl 43 (.tmp 14) rfl bi (oi + k * 35) rfl cx _ RX.out Tryd.underlying43 rfl (by rw [LX.out]; kernel_rfl) ?_; go_frame) | (refine wpList_store_row rfl 43 (.tmp 6) (.tmp 15) rfl wr.heap.size cx.toArray rfl rfl 43 _ (heap_alloc_new _ _) (by rw [LXS.out]; kernel_rfl) (by rw [LXS.out]; rfl) XA.out ?_; go_frame))
      obtain ⟨_, f2, f3, f4⟩ := fill_setup (Below.refl wr.heap.size wr) (List.replicate 32 (bV 0) ++ [nV 0, .slice none 0 0, nV 0]).toArray cx.toArray 43
      generalize hqw4 : World.setRow _ _ _ = w4
      have ew4 : World.setRow (wr.alloc (.cells (List.replicate 32 (bV 0) ++ [nV 0, .slice none 0 0, nV 0]).toArray 43)) wr.heap.size cx.toArray = w4 := hqw4
      rw [ew4] at f2 f3 f4
      obtain ⟨g6, hg6⟩ : ∃ g6, g6 = wr.heap.size := ⟨_, rfl⟩
      rw [← hg6] at f2 ⊢
      have F6 := Lib.hid f2
      have Ng6 : Hid (wr.heap.size ≤ g6) := by show _ ≤ _; rw [hg6]; exact Nat.le_refl _
      have BW := Lib.hid (BW.out.trans (f4.mono BW.out.size))
      clear f2 f3 f4 hqw4 ew4 hg6
      clear Ng6 p0 q0
      have R6 := Lib.hid (KP.out _ _ F6.out)
      go_wp2_with ((with_reducible show wpList _ _ _ _ _ _); (refine wpList_load_mid rfl 28 (.tmp 18) rfl g6 (0) rfl cp _ R6.out Tryd.underlying28 rfl (by rw [LP.out]; kernel_rfl) ?_; go_frame))
      refine (GX.out w4 BW.out).mono ?_
      rintro e w5 ⟨rfl, bb⟩
      have BW := Lib.hid (BW.out.trans (bb.mono BW.out.size))
      clear bb GX F6 R6
      go_upto_region 5 with ((with_reducible show wpList _ _ _ _ _ _); (refine wpList_store_row rfl 37 (.tmp 7) (.tmp 21) rfl w5.heap.size cm.toArray rfl rfl 37 _ (heap_alloc_new _ _) (by rw [ZM.out]; kernel_rfl) (by rw [ZM.out]; rfl) MA.out ?_; go_frame))
      obtain ⟨_, f2, f3, f4⟩ := fill_setup (Below.refl w5.heap.size w5) (mnL mnZ).toArray cm.toArray 37
      generalize hqw6 : World.setRow _ _ _ = w6
      have ew6 : World.setRow (w5.alloc (.cells (mnL mnZ).toArray 37)) w5.heap.size cm.toArray = w6 := hqw6
      rw [ew6] at f4
      have BW := Lib.hid (BW.out.trans (f4.mono BW.out.size))
      clear f2 f3 f4 hqw6 ew6
      cases q with
      | true =>
        have nl := NL.out
        go_wp2_with fail
        go_roundw
        case rel =>
          refine ⟨k + 1, by omega, by go_num, fun i y hi hy => ?_, BW.out⟩
          rcases Nat.lt_or_eq_of_le (Nat.lt_succ_iff.1 hi) with h | rfl
          · exact AL.out i y h hy
          · have h := XK.out
            rw [hy] at h
            rw [Option.some.inj h]
            exact OQ.out
        case measure => simp [intOf]; omega
      | false =>
        go_wp2_with fail
        go_ret
        exact ⟨by rw [all_not XK.out OQ.out]; rfl, BW.out⟩
    · have hkn : k = n := by omega
      subst hkn
      go_wp2_with fail
      go_ret
      exact ⟨by rw [all_of (fun i y hi hy => AL.out i y (by rw [NX.out]; exact hi) hy)]; rfl, BW.out⟩
def HoInv (n : Nat) (no : Nat → Bool) (w : World) (vi : Value) (wr : World) : Prop :=
  ∃ k : Nat, k ≤ n ∧ vi = .int .i64 (k : Int) ∧ (∀ i, i < k → no i = false) ∧ Below w.heap.size w wr
/-- Does the set have a coin where the transaction's outputs would be? -/
def outIs (l : List TSp) (id : List UInt8) (n : Nat) : Bool := (List.range n).any fun i => (getC l ⟨id, i⟩).isSome
set_option maxHeartbeats 4000000 in
set_option maxRecDepth 100000 in
theorem vwouts_any (w : World) (b a mb sb : Nat) (m : Option Nat) (l : List TSp) (made : Made) (gone : Gone) (t : TTx) (iv ov : Value) (id : List UInt8) (hid : id.length = 32) (hv : ViewAt w b a m mb sb l made gone) (ht : TxAt w (.agg (txL t iv ov).toArray) t) (hl : t.outs.length ≤ 1000) :
    Calls Tryd.prog 20 #[.pointer (some ⟨b, 0, none⟩), .agg (txL t iv ov).toArray, hK id] w fun e w' => e = .returned (.bool (outIs l id t.outs.length)) ∧ Below w.heap.size w w' := by
  have HV := Lib.hid hv
  obtain ⟨hi, ho⟩ := vtx_parts ht
  have TONE : Hid ((txL t iv ov).toArray.all (·.oneCell') = true) := tx_one hi ho
  have LT : Hid ((txL t iv ov).toArray.size = 4) := rfl
  have CO : Hid (∀ (W : World) (g : Nat), W.heap[g]? = some (.cells (txL t iv ov).toArray 49 (0, 0)) → W.cell? ⟨g, 2, none⟩ = some ov) := fun W g hg => (tx_cells hg).2.2.1
  obtain ⟨spo, capo, hsv⟩ : ∃ sp cap, ov = .slice sp t.outs.length cap := by
    obtain ⟨sp, cap, e, _⟩ := ho
    exact ⟨sp, cap, e⟩
  obtain ⟨no, hno⟩ : ∃ no : Nat → Bool, no = fun i => (getC l ⟨id, i⟩).isSome := ⟨_, rfl⟩
  have GA : Hid (∀ (k : Nat) W, k ≤ 1000 → Below w.heap.size w W → Calls Tryd.prog 16 #[.pointer (some ⟨a, 0, none⟩), .agg (ptC ⟨id, k⟩).toArray] W fun e w' => e = .returned (.tuple #[.agg (mnL ((getC l ⟨id, k⟩).getD mnZ)).toArray, .bool (no k)]) ∧ Below W.heap.size W w') := fun k W hk hW => by
    rw [hno]
    exact setget_any W a m l ⟨id, k⟩ (hv.below hW).set ⟨hid, by show k ≤ _; omega⟩
  have GK : Hid (∀ k, MnOk ((getC l ⟨id, k⟩).getD mnZ)) := fun k => getD_ok hv.set.map.ok _
  have PL : Hid (∀ (k : Nat) W, k ≤ 1000 → Calls Tryd.prog 23 #[.agg (id.map bV).toArray, .int .i64 (k : Int)] W fun e w' => e = .returned (.agg (ptC ⟨id, k⟩).toArray) ∧ Below W.heap.size W w') := fun k W hk => vwplace_any id k hid (by omega) W
  have OI1 : Hid (∀ n k, k < n → no k = true → outIs l id n = true) := fun n k hk h => by
    unfold outIs
    rw [List.any_eq_true]
    exact ⟨k, List.mem_range.2 hk, by rw [hno] at h; exact h⟩
  have OI2 : Hid (∀ n, (∀ i, i < n → no i = false) → outIs l id n = false) := fun n h => by
    unfold outIs
    rw [List.any_eq_false]
    intro i hi
    have := h i (List.mem_range.1 hi)
    rw [hno] at this
    simpa using this
  have LI : Hid ((id.map bV).length = 32) := by show _ = _; rw [List.length_map, hid]
  have SI : Hid ((id.map bV).toArray.size = 32) := by show _ = _; rw [List.size_toArray]; exact LI.out
  show Calls _ _ #[_, _, .agg (id.map bV).toArray] _ _
  obtain ⟨ci, hci⟩ : ∃ ci, ci = id.map bV := ⟨_, rfl⟩
  rw [← hci] at PL LI SI ⊢
  obtain ⟨n, hn1⟩ : ∃ n, n = t.outs.length := ⟨_, rfl⟩
  rw [← hn1] at hsv hl ⊢
  have NL := Lib.hid hl
  obtain ⟨ct, hct⟩ : ∃ ct, ct = txL t iv ov := ⟨_, rfl⟩
  rw [← hct] at TONE LT CO ⊢
  rw [hsv] at CO
  clear hv ht hi ho hno hn1 hl hct hsv hci hid
  go_enter Tryd.func20, Tryd.ntmps20
  go_upto_region 1 with fail
  have f4 := row_below (heap_alloc_new w (.cells ct.toArray 49 (0, 0))) ((Below.refl _ _).alloc (Nat.le_refl _) (.cells ci.toArray 25 (0, 0)))
  have f5 := heap_alloc_new (w.alloc (.cells ct.toArray 49 (0, 0))) (.cells ci.toArray 25 (0, 0))
  have b1 := ((Below.refl w.heap.size w).alloc (Nat.le_refl _) (.cells ct.toArray 49 (0, 0))).alloc (by simp) (.cells ci.toArray 25 (0, 0))
  rw [World.size_alloc] at f5
  generalize hw1 : World.alloc _ _ = w1
  have e1 : (w.alloc (.cells ct.toArray 49 (0, 0))).alloc (.cells ci.toArray 25 (0, 0)) = w1 := hw1
  rw [e1] at f4 f5 b1
  obtain ⟨g4, hg4⟩ : ∃ g4, g4 = w.heap.size := ⟨_, rfl⟩
  rw [← hg4] at f4 f5 ⊢
  have F4 := Lib.hid f4
  have F5A := Lib.hid f5
  have B1 := Lib.hid b1
  have c1 := CO.out _ _ F4.out
  clear f4 f5 b1 hw1 e1 hg4
  go_wp2_with fail
  clear c1
  go_loopw [13] (fun vi wr => HoInv n no w1 vi wr) (fun i _ => n - (intOf i).toNat)
  case atStart => exact ⟨0, Nat.zero_le _, rfl, fun i hi => absurd hi (Nat.not_lt_zero _), Below.refl _ _⟩
  case round =>
    obtain ⟨k, hk, rfl, hall, hbw⟩ := hrel
    have AL := Lib.hid hall
    have BW := Lib.hid (B1.out.trans (hbw.mono B1.out.size))
    have F5 := Lib.hid (row_below F5A.out hbw)
    clear hall
    by_cases hlt : k < n
    · have MK := GK.out k
      have PX : Hid (∀ W, Calls Tryd.prog 23 #[.agg ci.toArray, .int .i64 (k : Int)] W fun e w' => e = .returned (.agg (ptC ⟨id, k⟩).toArray) ∧ Below W.heap.size W w') := fun W => PL.out k W (by have := NL.out; omega)
      have GX : Hid (∀ W, Below w.heap.size w W → Calls Tryd.prog 16 #[.pointer (some ⟨a, 0, none⟩), .agg (ptC ⟨id, k⟩).toArray] W fun e w' => e = .returned (.tuple #[.agg (mnL ((getC l ⟨id, k⟩).getD mnZ)).toArray, .bool (no k)]) ∧ Below W.heap.size W w') := fun W hW => GA.out k W (by have := NL.out; omega) hW
      obtain ⟨c, hc⟩ : ∃ c, c = (getC l ⟨id, k⟩).getD mnZ := ⟨_, rfl⟩
      rw [← hc] at GX MK
      have ZM : Hid ((mnL c).toArray.size = 35) := mnL_size MK
      have CLN : Hid ((mnL c).length = 35) := mnL_length MK
      have MA : Hid ((mnL c).toArray.all (·.oneCell') = true) := mnL_all _
      obtain ⟨cm, hcm⟩ : ∃ cm, cm = mnL c := ⟨_, rfl⟩
      rw [← hcm] at GX ZM MA CLN
      obtain ⟨cp, hcp⟩ : ∃ cp, cp = ptC ⟨id, k⟩ := ⟨_, rfl⟩
      rw [← hcp] at GX PX
      obtain ⟨q, hq⟩ : ∃ q, q = no k := ⟨_, rfl⟩
      have OQ : Hid (no k = q) := hq.symm
      rw [← hq] at GX
      clear hc hcm hcp hq MK
      have BB0 := Lib.hid hbw
      clear hbw
      go_upto_region 4 with fail
      refine wp_region_held_drew (S := (fun w' => Below wr.heap.size wr w')) (by kernel_rfl) (Below.drew (Below.refl _ _)) (fun hHeld => ?_)
      generalize hwd : wr.drew = wd at  hHeld ⊢
      clear hwd
      refine held_take (i := 0) (v := (.pointer (some ⟨b, 0, none⟩))) rfl (by kernel_rfl) (by kernel_rfl) (by kernel_rfl) (fun _ _ _ h => h) (Or.inl ⟨by rfl, fun w' _ => by kernel_rfl⟩) hHeld ?_
      go_frame
      refine held_take (i := 1) (v := (.pointer (some ⟨b, 0, none⟩))) rfl (by kernel_rfl) (by kernel_rfl) (by kernel_rfl) (fun _ _ _ h => h) (Or.inl ⟨by rfl, fun w' _ => by kernel_rfl⟩) hHeld ?_
      go_frame
      refine held_take (i := 2) (v := (.pointer (some ⟨b, 0, none⟩))) rfl (by kernel_rfl) (by kernel_rfl) (by kernel_rfl) (fun _ _ _ h => h) (Or.inl ⟨by rfl, fun w' _ => by kernel_rfl⟩) hHeld ?_
      go_frame
      refine held_take (i := 3) (v := (.pointer (some ⟨a, 0, none⟩))) rfl (by kernel_rfl) (by kernel_rfl) (by kernel_rfl) (fun _ _ _ h => h) (yieldsIf_load_one (by rfl) 29 (.tmp 19) rfl b (0) rfl _ _ (fun w' hw' => (HV.out.below (BW.out.trans (hw'.mono BW.out.size))).ptr) Tryd.underlying29 rfl) hHeld ?_
      go_frame
      refine held_take (i := 4) (v := (.agg ci.toArray)) rfl (by kernel_rfl) (by kernel_rfl) (by kernel_rfl) (fun _ _ _ h => h) (yieldsIf_load_row (by rfl) 25 (.tmp 5) rfl (g4 + 1) rfl 25 ci.toArray (0, 0) _ (fun w' hw' => row_below F5.out hw') Tryd.underlying25 rfl (by rw [SI.out]; kernel_rfl)) hHeld ?_
      go_frame
      refine held_take (i := 5) (v := (.int .i64 (k : Int))) rfl (by kernel_rfl) (by kernel_rfl) (by kernel_rfl) (fun _ _ _ h => h) (Or.inl ⟨by rfl, fun w' _ => by kernel_rfl⟩) hHeld ?_
      go_frame
      refine wpAnyH_ready (rs := [6, 11]) (by kernel_rfl) (by simp) (held_cons rfl (fun K hK => ?_) (held_cons rfl (fun K hK => ?_) AllReadyH.nil))
      · skip
        go_simp
        refine (PX.out _).mono ?_
        rintro e v1 ⟨rfl, bb⟩
        have hv1 := hHeld.trans (bb.mono hHeld.size)
        clear bb hHeld
        go_wp2_with fail
        refine hK.out _ _ hv1 (fun hHeld => ?_)
        clear hK K hv1
        refine wpAnyH_ready (rs := [7, 11]) (by kernel_rfl) (by simp) (held_cons rfl (fun K hK => ?_) (held_cons rfl (fun K hK => ?_) AllReadyH.nil))
        · skip
          go_simp
          refine (GX.out _ (BW.out.trans (hHeld.mono BW.out.size))).mono ?_
          rintro e v2 ⟨rfl, bb⟩
          have hv2 := hHeld.trans (bb.mono hHeld.size)
          clear bb hHeld
          go_wp2_with fail
          refine hK.out _ _ hv2 (fun hHeld => ?_)
          clear hK K hv2
          refine held_take (i := 8) (v := (.tuple #[.agg cm.toArray, .bool q])) rfl (by kernel_rfl) (by kernel_rfl) (by kernel_rfl) (fun _ _ _ h => h) (Or.inl ⟨by rfl, fun w' _ => by kernel_rfl⟩) hHeld ?_
          go_frame
          refine held_take (i := 9) (v := (.agg cm.toArray)) rfl (by kernel_rfl) (by kernel_rfl) (by kernel_rfl) (fun _ _ _ h => h) (Or.inl ⟨by rfl, fun w' _ => by kernel_rfl⟩) hHeld ?_
          go_frame
          refine held_take (i := 10) (v := (.bool q)) rfl (by kernel_rfl) (by kernel_rfl) (by kernel_rfl) (fun _ _ _ h => h) (Or.inl ⟨by rfl, fun w' _ => by kernel_rfl⟩) hHeld ?_
          go_frame
          refine wpAnyH_ready (rs := [11]) (by kernel_rfl) (by simp) (held_cons rfl (fun K hK => ?_) AllReadyH.nil)
          go_simp
          have nf := heap_alloc_new v2 (.cells (mnL mnZ).toArray 37 (0, 0))
          have bb := (Below.refl v2.heap.size v2).alloc (Nat.le_refl _) (.cells (mnL mnZ).toArray 37 (0, 0))
          obtain ⟨gv3, hgv3⟩ : ∃ g, g = v2.heap.size := ⟨_, rfl⟩
          have GF8 : Hid (wr.heap.size ≤ gv3) := by show _ ≤ _; rw [hgv3]; exact hHeld.size
          generalize hqv3 : World.alloc _ _ = v3
          have ev3 : v2.alloc (.cells (mnL mnZ).toArray 37 (0, 0)) = v3 := hqv3
          rw [ev3] at nf bb
          rw [← hgv3] at nf ⊢
          have F8 := Lib.hid nf
          have hv3 := hHeld.trans (bb.mono hHeld.size)
          clear nf bb hqv3 ev3 hgv3 hHeld
          refine hK.out _ _ hv3 (fun hHeld => ?_)
          clear hK K hv3
          refine wpAnyH_ready (rs := [12]) (by kernel_rfl) (by simp) (held_cons rfl (fun K hK => ?_) AllReadyH.nil)
          rw [if_pos (by rfl)]
          refine wp_store_whole 37 (.tmp 8) (.tmp 25) rfl gv3 (mnL mnZ) cm 37 rfl rfl (by rw [mnL_length mnZ_ok, CLN.out]) F8.out (by rw [CLN.out]; kernel_rfl) (MA.out) ?_
          intro v4 q1 q2
          have F8 := Lib.hid q1
          have hv4 := hHeld.grown q2 hHeld.size (fun k hk => by cases hk; exact GF8.out)
          clear q1 q2 hHeld
          go_frame
          refine hK.out _ _ hv4 (fun hHeld => ?_)
          clear hK K hv4
          refine held_take (i := 13) (v := (.bool q)) rfl (by kernel_rfl) (by kernel_rfl) (by kernel_rfl) (fun _ _ _ h => h) (Or.inl ⟨by rfl, fun w' _ => by kernel_rfl⟩) hHeld ?_
          go_frame
          refine wpAnyH_done (by kernel_rfl) ?_ _
          obtain ⟨w9, hw9⟩ : ∃ w9, w9 = v4 := ⟨_, rfl⟩
          rw [← hw9] at  hHeld ⊢
          clear hw9
          have BX := Lib.hid (BB0.out.trans (hHeld.mono BB0.out.size))
          have BW := Lib.hid (BW.out.trans (hHeld.mono BW.out.size))
          clear hHeld F8 GX PX
          cases q with
          | true =>
            go_wp2_with fail
            go_ret
            exact ⟨by rw [OI1.out n k hlt OQ.out]; rfl, BW.out⟩
          | false =>
            have nl := NL.out
            go_wp2_with fail
            go_roundw
            case rel =>
              refine ⟨k + 1, by omega, by go_num, fun i hi => ?_, BX.out⟩
              rcases Nat.lt_or_eq_of_le (Nat.lt_succ_iff.1 hi) with h | rfl
              · exact AL.out i h
              · exact OQ.out
            case measure => simp [intOf]; omega
        · skip
          go_simp
          have nf := heap_alloc_new v1 (.cells (mnL mnZ).toArray 37 (0, 0))
          have bb := (Below.refl v1.heap.size v1).alloc (Nat.le_refl _) (.cells (mnL mnZ).toArray 37 (0, 0))
          obtain ⟨gv5, hgv5⟩ : ∃ g, g = v1.heap.size := ⟨_, rfl⟩
          have GF8 : Hid (wr.heap.size ≤ gv5) := by show _ ≤ _; rw [hgv5]; exact hHeld.size
          generalize hqv5 : World.alloc _ _ = v5
          have ev5 : v1.alloc (.cells (mnL mnZ).toArray 37 (0, 0)) = v5 := hqv5
          rw [ev5] at nf bb
          rw [← hgv5] at nf ⊢
          have F8 := Lib.hid nf
          have hv5 := hHeld.trans (bb.mono hHeld.size)
          clear nf bb hqv5 ev5 hgv5 hHeld
          refine hK.out _ _ hv5 (fun hHeld => ?_)
          clear hK K hv5
          refine wpAnyH_ready (rs := [7]) (by kernel_rfl) (by simp) (held_cons rfl (fun K hK => ?_) AllReadyH.nil)
          go_simp
          refine (GX.out _ (BW.out.trans (hHeld.mono BW.out.size))).mono ?_
          rintro e v6 ⟨rfl, bb⟩
          have F8 := Lib.hid (row_below F8.out bb)
          have hv6 := hHeld.trans (bb.mono hHeld.size)
          clear bb hHeld
          go_wp2_with fail
          refine hK.out _ _ hv6 (fun hHeld => ?_)
          clear hK K hv6
          refine held_take (i := 8) (v := (.tuple #[.agg cm.toArray, .bool q])) rfl (by kernel_rfl) (by kernel_rfl) (by kernel_rfl) (fun _ _ _ h => h) (Or.inl ⟨by rfl, fun w' _ => by kernel_rfl⟩) hHeld ?_
          go_frame
          refine held_take (i := 9) (v := (.agg cm.toArray)) rfl (by kernel_rfl) (by kernel_rfl) (by kernel_rfl) (fun _ _ _ h => h) (Or.inl ⟨by rfl, fun w' _ => by kernel_rfl⟩) hHeld ?_
          go_frame
          refine held_take (i := 10) (v := (.bool q)) rfl (by kernel_rfl) (by kernel_rfl) (by kernel_rfl) (fun _ _ _ h => h) (Or.inl ⟨by rfl, fun w' _ => by kernel_rfl⟩) hHeld ?_
          go_frame
          refine wpAnyH_ready (rs := [12]) (by kernel_rfl) (by simp) (held_cons rfl (fun K hK => ?_) AllReadyH.nil)
          rw [if_pos (by rfl)]
          refine wp_store_whole 37 (.tmp 8) (.tmp 25) rfl gv5 (mnL mnZ) cm 37 rfl rfl (by rw [mnL_length mnZ_ok, CLN.out]) F8.out (by rw [CLN.out]; kernel_rfl) (MA.out) ?_
          intro v7 q1 q2
          have F8 := Lib.hid q1
          have hv7 := hHeld.grown q2 hHeld.size (fun k hk => by cases hk; exact GF8.out)
          clear q1 q2 hHeld
          go_frame
          refine hK.out _ _ hv7 (fun hHeld => ?_)
          clear hK K hv7
          refine held_take (i := 13) (v := (.bool q)) rfl (by kernel_rfl) (by kernel_rfl) (by kernel_rfl) (fun _ _ _ h => h) (Or.inl ⟨by rfl, fun w' _ => by kernel_rfl⟩) hHeld ?_
          go_frame
          refine wpAnyH_done (by kernel_rfl) ?_ _
          obtain ⟨w9, hw9⟩ : ∃ w9, w9 = v7 := ⟨_, rfl⟩
          rw [← hw9] at  hHeld ⊢
          clear hw9
          have BX := Lib.hid (BB0.out.trans (hHeld.mono BB0.out.size))
          have BW := Lib.hid (BW.out.trans (hHeld.mono BW.out.size))
          clear hHeld F8 GX PX
          cases q with
          | true =>
            go_wp2_with fail
            go_ret
            exact ⟨by rw [OI1.out n k hlt OQ.out]; rfl, BW.out⟩
          | false =>
            have nl := NL.out
            go_wp2_with fail
            go_roundw
            case rel =>
              refine ⟨k + 1, by omega, by go_num, fun i hi => ?_, BX.out⟩
              rcases Nat.lt_or_eq_of_le (Nat.lt_succ_iff.1 hi) with h | rfl
              · exact AL.out i h
              · exact OQ.out
            case measure => simp [intOf]; omega
      · skip
        go_simp
        have nf := heap_alloc_new wd (.cells (mnL mnZ).toArray 37 (0, 0))
        have bb := (Below.refl wd.heap.size wd).alloc (Nat.le_refl _) (.cells (mnL mnZ).toArray 37 (0, 0))
        obtain ⟨gv8, hgv8⟩ : ∃ g, g = wd.heap.size := ⟨_, rfl⟩
        have GF8 : Hid (wr.heap.size ≤ gv8) := by show _ ≤ _; rw [hgv8]; exact hHeld.size
        generalize hqv8 : World.alloc _ _ = v8
        have ev8 : wd.alloc (.cells (mnL mnZ).toArray 37 (0, 0)) = v8 := hqv8
        rw [ev8] at nf bb
        rw [← hgv8] at nf ⊢
        have F8 := Lib.hid nf
        have hv8 := hHeld.trans (bb.mono hHeld.size)
        clear nf bb hqv8 ev8 hgv8 hHeld
        refine hK.out _ _ hv8 (fun hHeld => ?_)
        clear hK K hv8
        refine wpAnyH_ready (rs := [6]) (by kernel_rfl) (by simp) (held_cons rfl (fun K hK => ?_) AllReadyH.nil)
        go_simp
        refine (PX.out _).mono ?_
        rintro e v9 ⟨rfl, bb⟩
        have F8 := Lib.hid (row_below F8.out bb)
        have hv9 := hHeld.trans (bb.mono hHeld.size)
        clear bb hHeld
        go_wp2_with fail
        refine hK.out _ _ hv9 (fun hHeld => ?_)
        clear hK K hv9
        refine wpAnyH_ready (rs := [7]) (by kernel_rfl) (by simp) (held_cons rfl (fun K hK => ?_) AllReadyH.nil)
        go_simp
        refine (GX.out _ (BW.out.trans (hHeld.mono BW.out.size))).mono ?_
        rintro e v10 ⟨rfl, bb⟩
        have F8 := Lib.hid (row_below F8.out bb)
        have hv10 := hHeld.trans (bb.mono hHeld.size)
        clear bb hHeld
        go_wp2_with fail
        refine hK.out _ _ hv10 (fun hHeld => ?_)
        clear hK K hv10
        refine held_take (i := 8) (v := (.tuple #[.agg cm.toArray, .bool q])) rfl (by kernel_rfl) (by kernel_rfl) (by kernel_rfl) (fun _ _ _ h => h) (Or.inl ⟨by rfl, fun w' _ => by kernel_rfl⟩) hHeld ?_
        go_frame
        refine held_take (i := 9) (v := (.agg cm.toArray)) rfl (by kernel_rfl) (by kernel_rfl) (by kernel_rfl) (fun _ _ _ h => h) (Or.inl ⟨by rfl, fun w' _ => by kernel_rfl⟩) hHeld ?_
        go_frame
        refine held_take (i := 10) (v := (.bool q)) rfl (by kernel_rfl) (by kernel_rfl) (by kernel_rfl) (fun _ _ _ h => h) (Or.inl ⟨by rfl, fun w' _ => by kernel_rfl⟩) hHeld ?_
        go_frame
        refine wpAnyH_ready (rs := [12]) (by kernel_rfl) (by simp) (held_cons rfl (fun K hK => ?_) AllReadyH.nil)
        rw [if_pos (by rfl)]
        refine wp_store_whole 37 (.tmp 8) (.tmp 25) rfl gv8 (mnL mnZ) cm 37 rfl rfl (by rw [mnL_length mnZ_ok, CLN.out]) F8.out (by rw [CLN.out]; kernel_rfl) (MA.out) ?_
        intro v11 q1 q2
        have F8 := Lib.hid q1
        have hv11 := hHeld.grown q2 hHeld.size (fun k hk => by cases hk; exact GF8.out)
        clear q1 q2 hHeld
        go_frame
        refine hK.out _ _ hv11 (fun hHeld => ?_)
        clear hK K hv11
        refine held_take (i := 13) (v := (.bool q)) rfl (by kernel_rfl) (by kernel_rfl) (by kernel_rfl) (fun _ _ _ h => h) (Or.inl ⟨by rfl, fun w' _ => by kernel_rfl⟩) hHeld ?_
        go_frame
        refine wpAnyH_done (by kernel_rfl) ?_ _
        obtain ⟨w9, hw9⟩ : ∃ w9, w9 = v11 := ⟨_, rfl⟩
        rw [← hw9] at  hHeld ⊢
        clear hw9
        have BX := Lib.hid (BB0.out.trans (hHeld.mono BB0.out.size))
        have BW := Lib.hid (BW.out.trans (hHeld.mono BW.out.size))
        clear hHeld F8 GX PX
        cases q with
        | true =>
          go_wp2_with fail
          go_ret
          exact ⟨by rw [OI1.out n k hlt OQ.out]; rfl, BW.out⟩
        | false =>
          have nl := NL.out
          go_wp2_with fail
          go_roundw
          case rel =>
            refine ⟨k + 1, by omega, by go_num, fun i hi => ?_, BX.out⟩
            rcases Nat.lt_or_eq_of_le (Nat.lt_succ_iff.1 hi) with h | rfl
            · exact AL.out i h
            · exact OQ.out
          case measure => simp [intOf]; omega
    · have hkn : k = n := by omega
      subst hkn
      have BB0 := Lib.hid hbw
      clear hbw
      go_wp2_with fail
      go_ret
      exact ⟨by rw [OI2.out k AL.out]; rfl, BW.out⟩
end Go.Proofs.YtgcoegbamoehfaaDoor.Sha

/-
  bytes.Equal answers whether two slices have the same bytes; nothing is written. Condition: the bytes lie where the slices say.
-/
namespace Go.Proofs.YtgcoegbamoehfaaDoor.Sha
open Go Go.RowKit
theorem conv_src {w : World} {v : Value} {bs : List UInt8} (h : SrcB w v bs) : (convert 41 9 v).run Tryd.prog w = .ok (.string ⟨bs.toArray⟩) w := by
  rcases h with ⟨sp, cap, rfl, rfl⟩ | ⟨h0, bb, off, cap, rfl, hc, hs⟩
  · cases sp with
    | none => exact Lib.run_convert_nil_bytes w _ _ _ cap Tryd.underlying41 Tryd.underlying5 Tryd.underlying9
    | some a => exact run_convert_bytes_back w _ _ _ a cap [] Tryd.underlying41 Tryd.underlying5 Tryd.underlying9 (fun j hj => absurd hj (by simp))
  · exact run_convert_bytes_back w _ _ _ ⟨bb, off, none⟩ cap bs Tryd.underlying41 Tryd.underlying5 Tryd.underlying9 (fun j hj => by
      rw [Addr.add_mid, hs j hj]
      simp [bv, List.getD, List.getElem?_eq_getElem hj])
theorem bytes_beq_of (x y : List UInt8) : ((⟨x.toArray⟩ : ByteArray).toList == (⟨y.toArray⟩ : ByteArray).toList) = decide (x = y) := by
  rw [ByteArray.toList_eq, ByteArray.toList_eq]
  show (x == y) = decide (x = y)
  by_cases h : x = y <;> simp [h]
end Go.Proofs.YtgcoegbamoehfaaDoor.Sha

/-
  Small functions of the statements' own SHA-256: a word turned right, the table of the rounds' words, as the chapter gives them. No conditions.
-/
namespace Go.Proofs.YtgcoegbamoehfaaDoor.Sha
open Go Go.RowKit
theorem right_fact (x : UInt32) (n : Nat) (h1 : 1 ≤ n) (h2 : n ≤ 31) : bits .or .u32 (wv x / 2 ^ n) (wv x * 2 ^ (32 - n) % 4294967296) = wv (rotr x n) := by
  rw [← IntKind.wrap_u32', wv_shl x _ (by omega), wv_shr x n (by omega), wv_or]
  rfl
set_option maxRecDepth 100000 in
theorem right_any (x : UInt32) (n : Nat) (k : Int) (hk : k = (n : Int)) (h1 : 1 ≤ n) (h2 : n ≤ 31) (w : World) :
    Calls Tryd.prog 42 #[.int .u32 (wv x), .int .u64 k] w fun e w' => e = .returned (.int .u32 (wv (rotr x n))) ∧ w = w' := by
  subst hk
  go_enter Tryd.func42, Tryd.ntmps42
  go_wp2
  go_ret
  exact ⟨ret_int (right_fact x n h1 h2), rfl⟩
theorem right_z (x : UInt32) (k : Int) (h1 : 1 ≤ k) (h2 : k ≤ 31) (w : World) :
    Calls Tryd.prog 42 #[.int .u32 (wv x), .int .u64 k] w fun e w' => e = .returned (.int .u32 (wv (rotr x k.toNat))) ∧ w = w' :=
  right_any x k.toNat k (by omega) (by omega) (by omega) w
theorem wv_sum3 (a b c : UInt32) : (wv a + wv b + wv c) % 4294967296 = wv (a + b + c) := by rw [← wv_sum, ← wv_sum]; omega
theorem wv_sum4 (a b c d : UInt32) : (wv a + wv b + wv c + wv d) % 4294967296 = wv (a + b + c + d) := by rw [← wv_sum, ← wv_sum3]; omega
theorem wv_not (x : UInt32) : bits .xor .u32 IntKind.u32.max (wv x) = wv (~~~x) := by
  rw [show IntKind.u32.max = wv 4294967295 from rfl, wv_xor, show (4294967295 : UInt32) = -1 from rfl, UInt32.neg_one_xor]
set_option maxRecDepth 100000 in
theorem k_any (w : World) : Calls Tryd.prog 41 #[] w fun e w' => e = .returned (.slice (some ⟨w.heap.size, 0, none⟩) 64 64) ∧ w'.heap[w.heap.size]? = some (.cells (kList.map wV).toArray 26 (0, 0)) ∧ Below w.heap.size w w' := by
  go_enter Tryd.func41, Tryd.ntmps41
  go_wp2
  go_ret
  exact ⟨rfl, by rw [heap_alloc_new]; rfl, (Below.refl _ _).alloc (Nat.le_refl _) _⟩
end Go.Proofs.YtgcoegbamoehfaaDoor.Sha
